package manifest

import (
	"fmt"
	"maps"
	"math"
	"math/rand/v2"
	"slices"
	"strings"
	"testing"
	"unsafe"

	"redress/api"
)

// The tables of the chapter's examples.
var (
	tableF = File{N: 1, Level: 0, Count: 2, First: "a", Last: "c"}
	tableG = File{N: 2, Level: 1, Count: 1, First: "b", Last: "b"}
)

// same says whether two states are the same, a list without elements being nil or empty.
func same(a, b State) bool {
	return a.Next == b.Next && a.Log == b.Log && slices.Equal(a.Files, b.Files)
}

// short is a state to be read by somebody.
func short(s State) string {
	r := fmt.Sprintf("{Next %d, Log %d, %d tables", s.Next, s.Log, len(s.Files))
	for _, f := range s.Files[:min(4, len(s.Files))] {
		r += fmt.Sprintf(" {%d %d %d %.20q %.20q}", f.N, f.Level, f.Count, f.First, f.Last)
	}
	return r + "}"
}

// checks says where Check answers another error.
func checks(t *testing.T, what string, s State, wanted api.Errno) {
	t.Helper()
	if got := Check(s); got != wanted {
		t.Errorf("Check, %s: error %d, not %d", what, got, wanted)
	}
}

// applies says where Apply answers another state or error.
func applies(t *testing.T, what string, s State, e Edit, wanted State, no api.Errno) {
	t.Helper()
	got, bad := Apply(s, e)
	if bad != no || !same(got, wanted) {
		t.Errorf("Apply, %s: %s, error %d; not %s, %d", what, short(got), bad, short(wanted), no)
	}
}

// refused says where Apply answers another error than the one wanted, or a state beside it.
func refused(t *testing.T, what string, s State, e Edit, wanted api.Errno) {
	t.Helper()
	applies(t, what, s, e, State{}, wanted)
}

// keyOf is a key of number i: keys rise with their numbers.
func keyOf(i int) string { return fmt.Sprintf("k%06d", i) }

// many is n tables of a level, one behind the other, from a number on; each third one has one entry.
func many(n, from, level int) []File {
	var l []File
	for i := range n {
		f := File{N: from + i, Level: level, Count: 1, First: keyOf(2 * (from + i)), Last: keyOf(2 * (from + i))}
		if i%3 != 0 {
			f.Count, f.Last = 2+i, keyOf(2*(from+i)+1)
		}
		l = append(l, f)
	}
	return l
}

func TestExamplesOfStates(t *testing.T) {
	applies(t, "Add F", State{Next: 1}, Edit{Add: []File{tableF}, Next: 2}, State{Next: 2, Files: []File{tableF}}, api.OK)
	applies(t, "Drop 1, Add G", State{Next: 2, Files: []File{tableF}}, Edit{Drop: []int{1}, Add: []File{tableG}, Next: 3, Log: 5}, State{Next: 3, Log: 5, Files: []File{tableG}}, api.OK)
	refused(t, "Drop 1 of none", State{Next: 1}, Edit{Drop: []int{1}}, api.ErrNone)
	refused(t, "Add F, too early", State{Next: 1}, Edit{Add: []File{tableF}}, api.ErrArg)
	refused(t, "Add F, twice", State{Next: 2, Files: []File{tableF}}, Edit{Add: []File{tableF}}, api.ErrThere)
	checks(t, "F and G", State{Next: 3, Files: []File{tableF, tableG}}, api.OK)
	checks(t, "G about", State{Next: 4, Files: []File{tableG, {3, 1, 2, "a", "c"}}}, api.ErrArg)
	checks(t, "the zero state", State{}, api.ErrArg)
}

// P8.1

func TestNextAndLog(t *testing.T) {
	for _, x := range []struct {
		next, log int
		wanted    api.Errno
	}{
		{0, 0, api.ErrArg}, {1, 0, api.OK}, {-1, 0, api.ErrArg}, {math.MinInt, 0, api.ErrArg},
		{1 << 40, 0, api.OK}, {1<<40 + 1, 0, api.ErrArg}, {math.MaxInt, 0, api.ErrArg},
		{1, -1, api.ErrArg}, {1, 1, api.OK}, {1, 1 << 40, api.OK}, {1, 1<<40 + 1, api.ErrArg},
		{1, math.MinInt, api.ErrArg}, {1, math.MaxInt, api.ErrArg}, {1 << 40, 1 << 40, api.OK}, {7, 1 << 20, api.OK},
	} {
		s := State{Next: x.next, Log: x.log}
		checks(t, fmt.Sprint(s), s, x.wanted)
		if x.wanted == api.OK {
			applies(t, fmt.Sprint("nothing to ", s), s, Edit{}, s, api.OK)
			applies(t, fmt.Sprint("up to ", s), State{Next: 1}, Edit{Next: x.next, Log: x.log}, s, api.OK)
		} else {
			refused(t, fmt.Sprint("nothing to ", s), s, Edit{}, x.wanted)
		}
	}
	refused(t, "Next too great", State{Next: 1}, Edit{Next: 1<<40 + 1}, api.ErrArg)
	refused(t, "Log too great", State{Next: 1}, Edit{Log: 1<<40 + 1}, api.ErrArg)
}

// What an edit says of Next and Log raises these, and never lowers them.
func TestRaised(t *testing.T) {
	at := State{Next: 5, Log: 7}
	for _, x := range []struct{ next, log, nextNow, logNow int }{
		{0, 0, 5, 7}, {5, 7, 5, 7}, {4, 6, 5, 7}, {6, 8, 6, 8}, {9, 1, 9, 7}, {1, 9, 5, 9},
		{-1, -1, 5, 7}, {math.MinInt, math.MinInt, 5, 7}, {1 << 40, 1 << 40, 1 << 40, 1 << 40},
	} {
		applies(t, fmt.Sprint(x), at, Edit{Next: x.next, Log: x.log}, State{Next: x.nextNow, Log: x.logNow}, api.OK)
	}
}

// What is right of one table, each edge in turn.
func TestOneTable(t *testing.T) {
	long := strings.Repeat("z", api.MaxKey)
	for _, x := range []struct {
		f      File
		wanted api.Errno
	}{
		{File{0, 0, 2, "a", "b"}, api.ErrArg}, {File{1, 0, 2, "a", "b"}, api.OK}, {File{-1, 0, 2, "a", "b"}, api.ErrArg},
		{File{9, 0, 2, "a", "b"}, api.OK}, {File{10, 0, 2, "a", "b"}, api.ErrArg}, {File{11, 0, 2, "a", "b"}, api.ErrArg},
		{File{math.MinInt, 0, 2, "a", "b"}, api.ErrArg}, {File{math.MaxInt, 0, 2, "a", "b"}, api.ErrArg},
		{File{1, -1, 2, "a", "b"}, api.ErrArg}, {File{1, 1, 2, "a", "b"}, api.OK}, {File{1, 2, 2, "a", "b"}, api.OK},
		{File{1, 3, 2, "a", "b"}, api.OK}, {File{1, 4, 2, "a", "b"}, api.ErrArg},
		{File{1, math.MaxInt, 2, "a", "b"}, api.ErrArg}, {File{1, math.MinInt, 2, "a", "b"}, api.ErrArg},
		{File{1, 0, 0, "a", "b"}, api.ErrArg}, {File{1, 0, 0, "a", "a"}, api.ErrArg}, {File{1, 0, -1, "a", "b"}, api.ErrArg},
		{File{1, 0, 1, "a", "a"}, api.OK}, {File{1, 0, 1, "a", "b"}, api.ErrArg}, {File{1, 0, 1, "b", "a"}, api.ErrArg},
		{File{1, 0, 2, "a", "a"}, api.ErrArg}, {File{1, 0, 2, "b", "a"}, api.ErrArg}, {File{1, 0, 4096, "a", "a"}, api.ErrArg},
		{File{1, 0, 4096, "a", "b"}, api.OK}, {File{1, 0, 4097, "a", "b"}, api.ErrArg}, {File{1, 0, math.MaxInt, "a", "b"}, api.ErrArg},
		{File{1, 0, 2, "", "b"}, api.ErrArg}, {File{1, 0, 1, "", ""}, api.ErrArg}, {File{1, 0, 2, "a", ""}, api.ErrArg},
		{File{1, 0, 2, "a", long}, api.OK}, {File{1, 0, 2, "a", long + "z"}, api.ErrArg},
		{File{1, 0, 1, long, long}, api.OK}, {File{1, 0, 1, long + "z", long + "z"}, api.ErrArg},
		{File{1, 0, 2, long, long + "z"}, api.ErrArg}, {File{1, 0, 2, long[1:], long}, api.OK},
		{File{1, 0, 2, long + "z", "zzzz"}, api.ErrArg}, {File{1, 0, 2, strings.Repeat("a", 129), "b"}, api.ErrArg},
		{File{1, 0, 2, "a", "a\x00"}, api.OK}, {File{1, 0, 2, "a\x00", "a"}, api.ErrArg},
		{File{1, 0, 2, "\x00", "\xff"}, api.OK}, {File{1, 0, 2, "\xff", "\x00"}, api.ErrArg}, {File{1, 0, 1, "\x80", "\x80"}, api.OK},
		{File{1, 0, 2, "z", "é"}, api.OK}, {File{1, 0, 2, "a", "A"}, api.ErrArg},
	} {
		s := State{Next: 10, Log: 3, Files: []File{x.f}}
		checks(t, fmt.Sprint(x.f), s, x.wanted)
		if x.wanted == api.OK {
			applies(t, fmt.Sprint("adding ", x.f), State{Next: 10, Log: 3}, Edit{Add: []File{x.f}}, s, api.OK)
		} else {
			refused(t, fmt.Sprint("adding ", x.f), State{Next: 10, Log: 3}, Edit{Add: []File{x.f}}, x.wanted)
			refused(t, fmt.Sprint("dropping ", x.f), s, Edit{Drop: []int{x.f.N}}, x.wanted)
		}
	}
}

// Two tables of one level may have keys in common at level 0 alone.
func TestTwoTables(t *testing.T) {
	for _, x := range []struct {
		a, b  [2]string
		apart bool
	}{
		{[2]string{"a", "b"}, [2]string{"c", "d"}, true},
		{[2]string{"a", "b"}, [2]string{"b\x00", "d"}, true},
		{[2]string{"a", "b"}, [2]string{"b", "d"}, false},
		{[2]string{"a", "c"}, [2]string{"b", "d"}, false},
		{[2]string{"a", "d"}, [2]string{"b", "c"}, false},
		{[2]string{"a", "b"}, [2]string{"a", "b"}, false},
		{[2]string{"a", "c"}, [2]string{"a", "b"}, false},
		{[2]string{"a", "c"}, [2]string{"b", "c"}, false},
		{[2]string{"a", "a"}, [2]string{"b", "b"}, true},
		{[2]string{"a", "a"}, [2]string{"a", "a"}, false},
		{[2]string{"a", "c"}, [2]string{"b", "b"}, false},
		{[2]string{"a", "c"}, [2]string{"a", "a"}, false},
		{[2]string{"a", "c"}, [2]string{"c", "c"}, false},
		{[2]string{"b", "c"}, [2]string{"a", "a"}, true},
	} {
		fileOf := func(n, level int, ends [2]string) File {
			if ends[0] == ends[1] {
				return File{n, level, 1, ends[0], ends[1]}
			}
			return File{n, level, 5, ends[0], ends[1]}
		}
		for p := range Levels {
			for q := range Levels {
				wanted := api.OK
				if p == q && p > 0 && !x.apart {
					wanted = api.ErrArg
				}
				a, b := fileOf(3, p, x.a), fileOf(5, q, x.b)
				checks(t, fmt.Sprint(a, b), State{Next: 9, Files: []File{a, b}}, wanted)
				a.N, b.N = 5, 3
				checks(t, fmt.Sprint(b, a), State{Next: 9, Files: []File{b, a}}, wanted)
				// Others that stand between them change nothing.
				c := File{4, (p + 1) % Levels, 2, "x", "y"}
				checks(t, fmt.Sprint(b, c, a), State{Next: 9, Files: []File{b, c, a}}, wanted)
			}
		}
	}
}

func TestNumbersRise(t *testing.T) {
	of := func(numbers ...int) State {
		s := State{Next: 100}
		for _, n := range numbers {
			s.Files = append(s.Files, File{n, 0, 2, "a", "b"})
		}
		return s
	}
	checks(t, "rising", of(1, 2, 50, 99), api.OK)
	checks(t, "Next itself", of(1, 2, 50, 100), api.ErrArg)
	checks(t, "from 0", of(0, 1, 2), api.ErrArg)
	checks(t, "from below 0", of(-2, -1), api.ErrArg)
	checks(t, "one twice", of(1, 2, 2, 3), api.ErrArg)
	checks(t, "the first one twice", of(1, 1), api.ErrArg)
	checks(t, "falling", of(2, 1), api.ErrArg)
	checks(t, "falling at the end", of(1, 2, 4, 3), api.ErrArg)
	refused(t, "dropping the wrong one", of(1, 2, 4, 3), Edit{Drop: []int{3}}, api.ErrArg)
}

func TestMost(t *testing.T) {
	full := State{Next: 1000, Files: append(many(100, 1, 0), many(100, 101, 2)...)}
	checks(t, "200 tables", full, api.OK)
	more := State{Next: 1000, Files: append(slices.Clone(full.Files), File{201, 0, 1, "a", "a"})}
	checks(t, "201 tables", more, api.ErrArg)
	checks(t, "very many", State{Next: 1 << 30, Files: many(100000, 1, 0)}, api.ErrArg)

	one := File{500, 0, 1, "a", "a"}
	refused(t, "one more", full, Edit{Add: []File{one}}, api.ErrArg)
	applies(t, "one more for one", full, Edit{Drop: []int{200}, Add: []File{one}}, State{Next: 1000, Files: append(slices.Clone(full.Files[:199]), one)}, api.OK)
	refused(t, "two more for one", full, Edit{Drop: []int{7}, Add: []File{one, {501, 0, 1, "a", "a"}}}, api.ErrArg)
	applies(t, "all at once", State{Next: 1}, Edit{Add: full.Files, Next: 1000}, full, api.OK)
	refused(t, "too many at once", State{Next: 1}, Edit{Add: more.Files, Next: 1000}, api.ErrArg)
	refused(t, "very many at once", State{Next: 1}, Edit{Add: many(100000, 1, 0), Next: 1 << 30}, api.ErrArg)
	refused(t, "very many of one number", State{Next: 9}, Edit{Add: slices.Repeat([]File{tableF}, 100000)}, api.ErrThere)
	refused(t, "very many drops", full, Edit{Drop: slices.Repeat([]int{7}, 100000)}, api.ErrNone)

	var all []int
	for _, f := range full.Files {
		all = append(all, f.N)
	}
	slices.Reverse(all)
	applies(t, "none left", full, Edit{Drop: all}, State{Next: 1000}, api.OK)
	applies(t, "all for all", full, Edit{Drop: all, Add: full.Files}, full, api.OK)
}

// Tables come in whatever order they are added, and stand by rising numbers.
func TestInOrder(t *testing.T) {
	l := many(6, 1, 1)
	s := State{Next: 9, Files: []File{l[0], l[2], l[4]}}
	applies(t, "between", s, Edit{Add: []File{l[5], l[1], l[3]}}, State{Next: 9, Files: l}, api.OK)
	applies(t, "between and dropped", s, Edit{Drop: []int{5, 1}, Add: []File{l[3], l[1]}}, State{Next: 9, Files: l[1:4]}, api.OK)
	applies(t, "dropped alone", s, Edit{Drop: []int{3}}, State{Next: 9, Files: []File{l[0], l[4]}}, api.OK)
	applies(t, "dropped in order", s, Edit{Drop: []int{1, 3}}, State{Next: 9, Files: l[4:5]}, api.OK)
	// What comes of all of it counts, not what stands in between.
	meets := File{8, 1, 2, l[0].First, l[0].First + "a"}
	refused(t, "a table that meets another one", s, Edit{Add: []File{meets}}, api.ErrArg)
	applies(t, "one in another's place", s, Edit{Drop: []int{1}, Add: []File{meets}}, State{Next: 9, Files: []File{l[2], l[4], meets}}, api.OK)
	again := File{1, 2, 3, "x", "y"}
	applies(t, "a number dropped and added", s, Edit{Drop: []int{1}, Add: []File{again}}, State{Next: 9, Files: []File{again, l[2], l[4]}}, api.OK)
	refused(t, "a number dropped and added twice", s, Edit{Drop: []int{1}, Add: []File{again, again}}, api.ErrThere)
	applies(t, "Next raised for it", s, Edit{Add: []File{{11, 0, 1, "a", "a"}}, Next: 12}, State{Next: 12, Files: append(slices.Clone(s.Files), File{11, 0, 1, "a", "a"})}, api.OK)
	refused(t, "Next raised too little", s, Edit{Add: []File{{11, 0, 1, "a", "a"}}, Next: 11}, api.ErrArg)
}

// Where more than one error is due the promise tells which comes first.
func TestFirstError(t *testing.T) {
	right := State{Next: 5, Files: []File{tableF, tableG}}
	wrong := State{Next: 2, Files: []File{tableF, tableG}}
	bad := File{7, 9, 0, "", ""}
	for _, x := range []struct {
		what   string
		s      State
		e      Edit
		wanted api.Errno
	}{
		{"wrong ahead of none", wrong, Edit{Drop: []int{9}}, api.ErrArg},
		{"wrong ahead of there", wrong, Edit{Add: []File{tableF}}, api.ErrArg},
		{"wrong, though mended", wrong, Edit{Next: 5}, api.ErrArg},
		{"wrong, though dropped", wrong, Edit{Drop: []int{2}}, api.ErrArg},
		{"none ahead of there", right, Edit{Drop: []int{9}, Add: []File{tableF}}, api.ErrNone},
		{"twice ahead of there", right, Edit{Drop: []int{1, 1}, Add: []File{tableG}}, api.ErrNone},
		{"none ahead of wrong", right, Edit{Drop: []int{9}, Add: []File{bad}}, api.ErrNone},
		{"none of what is added", right, Edit{Drop: []int{3}, Add: []File{{3, 0, 1, "a", "a"}}}, api.ErrNone},
		{"there ahead of wrong", right, Edit{Add: []File{bad, tableF}}, api.ErrThere},
		{"there ahead of wrong Log", right, Edit{Add: []File{tableF}, Log: math.MaxInt}, api.ErrThere},
		{"twice ahead of wrong", right, Edit{Add: []File{bad, bad}}, api.ErrThere},
		{"twice of wrong numbers", right, Edit{Add: []File{{N: -3}, {N: -3}}}, api.ErrThere},
		{"one of wrong numbers", right, Edit{Add: []File{{N: -3}, {N: -4}}}, api.ErrArg},
		{"dropped, but one twice", right, Edit{Drop: []int{1, 2, 1}}, api.ErrNone},
		{"0", right, Edit{Drop: []int{0}}, api.ErrNone},
		{"below 0", right, Edit{Drop: []int{-1}}, api.ErrNone},
		{"Next", right, Edit{Drop: []int{5}}, api.ErrNone},
		{"one that is left", right, Edit{Drop: []int{1}, Add: []File{tableG}}, api.ErrThere},
	} {
		refused(t, x.what, x.s, x.e, x.wanted)
	}
}

// isRight is what a right state is, by the chapter's words, one pair of tables after the other.
func isRight(s State) bool {
	ok := 1 <= s.Next && s.Next <= 1<<40 && 0 <= s.Log && s.Log <= 1<<40 && len(s.Files) <= 200
	for i, f := range s.Files {
		ok = ok && 1 <= f.N && f.N <= s.Next-1
		ok = ok && 0 <= f.Level && f.Level <= 3 && 1 <= f.Count && f.Count <= 4096
		ok = ok && 1 <= len(f.First) && len(f.First) <= 128 && 1 <= len(f.Last) && len(f.Last) <= 128
		ok = ok && !(f.First > f.Last) && (f.First == f.Last) == (f.Count == 1)
		for j, g := range s.Files {
			if j < i {
				ok = ok && g.N < f.N
			}
			if i != j && f.Level == g.Level && f.Level >= 1 {
				ok = ok && (f.Last < g.First || g.Last < f.First)
			}
		}
	}
	return ok
}

// slowly is Apply by the chapter's words.
func slowly(s State, e Edit) (State, api.Errno) {
	if !isRight(s) {
		return State{}, api.ErrArg
	}
	left := map[int]File{}
	for _, f := range s.Files {
		left[f.N] = f
	}
	for _, n := range e.Drop {
		if _, there := left[n]; !there {
			return State{}, api.ErrNone
		}
		delete(left, n)
	}
	for _, f := range e.Add {
		if _, there := left[f.N]; there {
			return State{}, api.ErrThere
		}
		left[f.N] = f
	}
	r := State{Next: max(s.Next, e.Next), Log: max(s.Log, e.Log)}
	for _, n := range slices.Sorted(maps.Keys(left)) {
		r.Files = append(r.Files, left[n])
	}
	if !isRight(r) {
		return State{}, api.ErrArg
	}
	return r, api.OK
}

// aFile is a table that is right mostly.
func aFile(r *rand.Rand, next int) File {
	n := 1 + r.IntN(next+1)
	a, b := r.IntN(60), 1+r.IntN(6)
	f := File{N: n, Level: r.IntN(Levels), Count: 1 + r.IntN(9), First: keyOf(a), Last: keyOf(a + b)}
	if f.Count == 1 {
		f.Last = f.First
	}
	switch r.IntN(60) {
	case 0:
		f.N = -r.IntN(3)
	case 1:
		f.Level = 4*r.IntN(2) - 1 + r.IntN(2)
	case 2:
		f.Count = []int{0, 1, 4096, 4097}[r.IntN(4)]
	case 3:
		f.First, f.Last = f.Last, f.First
	case 4:
		f.First = strings.Repeat("a", 127+r.IntN(3))
	case 5:
		f.Last = strings.Repeat("z", 127+r.IntN(3))
	}
	return f
}

// anEdit is an edit that can be applied to a state quite often.
func anEdit(r *rand.Rand, s State) Edit {
	e := Edit{Log: r.IntN(9)}
	for range r.IntN(3) {
		if len(s.Files) > 0 && r.IntN(12) > 0 {
			e.Drop = append(e.Drop, s.Files[r.IntN(len(s.Files))].N)
		} else if r.IntN(5) == 0 {
			e.Drop = append(e.Drop, r.IntN(s.Next+2)-1)
		}
	}
	for range r.IntN(3) {
		e.Add = append(e.Add, aFile(r, s.Next))
	}
	if r.IntN(2) == 0 && s.Next < 250 {
		e.Next = s.Next + r.IntN(3)
	}
	if r.IntN(80) == 0 {
		e.Log = 1<<40 + r.IntN(2)
	}
	return e
}

func TestAgainstTheWords(t *testing.T) {
	told := map[api.Errno]int{}
	for seed := range uint64(200) {
		r := rand.New(rand.NewPCG(seed, 8))
		s := State{Next: 1}
		for range 150 {
			e := anEdit(r, s)
			wanted, no := slowly(s, e)
			applies(t, fmt.Sprint(s, e), s, e, wanted, no)
			told[no]++
			if no == api.OK && wanted.Log < 1<<39 {
				s = wanted
			}
			spoiled := State{Next: s.Next - r.IntN(2), Log: s.Log - r.IntN(9)/8, Files: slices.Clone(s.Files)}
			if n := len(s.Files); n > 1 && r.IntN(2) == 0 {
				i := r.IntN(n)
				f := aFile(r, s.Next)
				f.N = s.Files[i].N
				spoiled.Files[i] = f
			}
			if (Check(spoiled) == api.OK) != isRight(spoiled) {
				t.Fatalf("Check of %v: %d", spoiled, Check(spoiled))
			}
		}
		if t.Failed() {
			t.Fatalf("seed %d", seed)
		}
	}
	for _, no := range []api.Errno{api.OK, api.ErrArg, api.ErrNone, api.ErrThere} {
		if told[no] < 300 {
			t.Errorf("error %d came %d times only", no, told[no])
		}
	}
}

// P8.5

// Edits that touch different tables come to the same in either order.
func TestEitherOrder(t *testing.T) {
	both := 0
	for seed := range uint64(3000) {
		r := rand.New(rand.NewPCG(seed, 85))
		s := State{Next: 60, Files: many(12, 1, 0)}
		a, b := anEdit(r, s), anEdit(r, s)
		first, e1 := Apply(s, a)
		second, e2 := Apply(s, b)
		behindA, e3 := Apply(first, b)
		behindB, e4 := Apply(second, a)
		touched := map[int]int{}
		for _, e := range []Edit{a, b} {
			of := map[int]bool{}
			for _, n := range e.Drop {
				of[n] = true
			}
			for _, f := range e.Add {
				of[f.N] = true
			}
			for n := range of {
				touched[n]++
			}
		}
		different := true
		for _, n := range touched {
			different = different && n < 2
		}
		if !different || e1 != api.OK || e2 != api.OK || e3 != api.OK || e4 != api.OK {
			continue
		}
		both++
		if !same(behindA, behindB) {
			t.Errorf("%v, %v and %v: %v; %v", s, a, b, behindA, behindB)
		}
	}
	if both < 300 {
		t.Errorf("%d pairs only", both)
	}
}

// R4: what is handed in is not changed, its spare room neither, and shares no memory with what is told.
func TestApplyOwnMemory(t *testing.T) {
	key := strings.Repeat("key", 3)
	roomy := func(l ...File) []File { return append(make([]File, 0, 10), l...) }
	one, two, three := File{1, 0, 2, key[:1], key}, File{2, 0, 1, key, key}, File{3, 2, 2, key[:2], key}
	for _, e := range []Edit{{}, {Drop: []int{1}}, {Add: roomy(three)}, {Drop: []int{2}, Add: roomy(three, File{2, 1, 1, key, key})}, {Add: roomy(File{4, 0, 1, key, key}, three)}} {
		s := State{Next: 9, Files: roomy(one, two)}
		handed := [][]File{slices.Clone(s.Files[:10]), slices.Clone(e.Add[:cap(e.Add)])}
		drop := slices.Clone(e.Drop)
		got, bad := Apply(s, e)
		if bad != api.OK {
			t.Fatalf("error %d", bad)
		}
		if !slices.Equal(s.Files[:10], handed[0]) || !slices.Equal(e.Add[:cap(e.Add)], handed[1]) || !slices.Equal(e.Drop, drop) {
			t.Errorf("%v: something handed in has changed", e)
		}
		ownKeys(t, got, []string{key})
		again := State{got.Next, got.Log, slices.Clone(got.Files)}
		clear(s.Files[:10])
		clear(e.Add)
		if !same(got, again) {
			t.Errorf("%v: a list is shared", e)
		}
		clear(got.Files[:cap(got.Files)])
		if slices.ContainsFunc(s.Files[:10], func(f File) bool { return f != File{} }) {
			t.Errorf("%v: what is told is shared", e)
		}
	}
	s := State{Next: 9, Files: roomy(one, two)}
	s.Files[:10][9].N = 77
	for _, e := range []Edit{{Drop: []int{1, 7}}, {Add: []File{one}}, {Drop: []int{1}, Add: []File{{}}}} {
		before := slices.Clone(s.Files[:10])
		if _, bad := Apply(s, e); bad == api.OK || !slices.Equal(s.Files[:10], before) {
			t.Errorf("%v: error %d, or something has changed", e, bad)
		}
	}
}

// ownKeys says where two of a state's keys share memory, or one with a text.
func ownKeys(t *testing.T, s State, texts []string) {
	t.Helper()
	type part struct{ from, to uintptr }
	of := func(s string) part {
		from := uintptr(unsafe.Pointer(unsafe.StringData(s)))
		return part{from, from + uintptr(len(s))}
	}
	var l []part
	for _, text := range texts {
		l = append(l, of(text))
	}
	for _, f := range s.Files {
		for _, key := range []string{f.First, f.Last} {
			k := of(key)
			if slices.ContainsFunc(l, func(p part) bool { return p.from < k.to && k.from < p.to }) {
				t.Errorf("key %q shares memory", key)
			}
			l = append(l, k)
		}
	}
}
