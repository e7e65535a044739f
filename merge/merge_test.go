package merge

import (
	"cmp"
	"iter"
	"math/rand/v2"
	"runtime"
	"slices"
	"strconv"
	"strings"
	"sync"
	"testing"
	"testing/synctest"

	"redress/api"
	"redress/table"
)

// itself is the key of a text.
func itself(s string) string { return s }

// words is the texts of a line as a sequence; a point stands for the empty text.
func words(line string) iter.Seq[string] { return slices.Values(list(line)) }

func list(line string) []string {
	l := strings.Fields(line)
	for i := range l {
		if l[i] == "." {
			l[i] = ""
		}
	}
	return l
}

// told is whatever a sequence tells, as a list.
func told[T any](seq iter.Seq[T]) []T { return slices.Collect(seq) }

func same[T comparable](t *testing.T, what string, got, want []T) {
	t.Helper()
	if !slices.Equal(got, want) {
		t.Fatalf("%s: told %v, not %v", what, got, want)
	}
}

// byWords merges lists as P7.1 has it, word by word.
func byWords[T any](key func(T) string, lists ...[]T) []T {
	lists = slices.Clone(lists)
	var out []T
	for {
		first := -1
		for i, l := range lists {
			if len(l) > 0 && (first < 0 || key(l[0]) < key(lists[first][0])) {
				first = i
			}
		}
		if first < 0 {
			return out
		}
		item := lists[first][0]
		out = append(out, item)
		for i, l := range lists {
			if len(l) > 0 && key(l[0]) == key(item) {
				lists[i] = l[1:]
			}
		}
	}
}

// ways are lists as sequences.
func ways[T any](lists [][]T) []iter.Seq[T] {
	var l []iter.Seq[T]
	for _, one := range lists {
		l = append(l, slices.Values(one))
	}
	return l
}

// counted is a way of which is seen what it has handed out, how often it was begun, and how often it has ended.
type counted struct {
	items             []string
	out, begun, ended int
}

func (c *counted) seq(yield func(string) bool) {
	c.begun++
	c.out = 0
	defer func() { c.ended++ }()
	for _, item := range c.items {
		c.out++
		if !yield(item) {
			return
		}
	}
}

func counts(lines ...string) ([]*counted, []iter.Seq[string]) {
	var cs []*counted
	var seqs []iter.Seq[string]
	for _, line := range lines {
		c := &counted{items: list(line)}
		cs, seqs = append(cs, c), append(seqs, c.seq)
	}
	return cs, seqs
}

// outs is what each way has handed out.
func outs(cs []*counted) []int {
	var l []int
	for _, c := range cs {
		l = append(l, c.out)
	}
	return l
}

// allLeft says whether each way was begun so often, and has ended so often.
func allLeft(cs []*counted, times int) bool {
	for _, c := range cs {
		if c.begun != times || c.ended != times {
			return false
		}
	}
	return true
}

// P7.1

func TestMergeExamples(t *testing.T) {
	for _, c := range []struct {
		ways []string
		want string
	}{
		{[]string{"a c", "b c d"}, "a b c d"},
		{[]string{"b a", "a"}, "a b a"},
		{[]string{"a", "b a"}, "a b a"},
		{nil, ""},
		{[]string{""}, ""},
		{[]string{"", "", ""}, ""},
		{[]string{"", "a a"}, "a a"},
		{[]string{"b a c a"}, "b a c a"},
		{[]string{"a a", "a"}, "a a"},
		{[]string{"a a", "a a a"}, "a a a"},
		{[]string{"a a b", "b a"}, "a a b a"},
		{[]string{"c b a", "c b a"}, "c b a"},
		{[]string{"c b a", "c a b"}, "c a b a"},
		{[]string{"c", "b", "a"}, "a b c"},
		{[]string{". a", ". b"}, ". a b"},
		{[]string{"a . .", ". a"}, ". a . ."},
		{[]string{"a ab b", "aa b \xff", "\x7f \x80"}, "a aa ab b \x7f \x80 \xff"},
		{[]string{"\u00e4", "z \xc3"}, "z \xc3 \u00e4"},
	} {
		var l []iter.Seq[string]
		for _, line := range c.ways {
			l = append(l, words(line))
		}
		same(t, "Merge of "+strings.Join(c.ways, ","), told(Merge(itself, l...)), list(c.want))
	}
}

func TestMergeNil(t *testing.T) {
	same(t, "nil, (a a)", told(Merge(itself, nil, words("a a"))), list("a a"))
	same(t, "(a), nil", told(Merge(itself, words("a"), nil)), list("a"))
	same(t, "nil", told(Merge(itself, nil)), nil)
	same(t, "nil, nil", told(Merge(itself, nil, nil)), nil)
	same(t, "nil, (b), nil, (), (a b)", told(Merge(itself, nil, words("b"), nil, words(""), words("a b"))), list("a b"))
}

// thing has a key, and says where it is from.
type thing struct {
	key   string
	from  int
	place int
}

func keyOf(x thing) string { return x.key }

// things are lists of keys as things.
func things(lists [][]string) [][]thing {
	var l [][]thing
	for from, keys := range lists {
		var one []thing
		for place, key := range keys {
			one = append(one, thing{key, from, place})
		}
		l = append(l, one)
	}
	return l
}

func TestMergeTellsTheFirstWay(t *testing.T) {
	l := things([][]string{list("b d"), list("a b c"), list("a b c d e")})
	want := []thing{{"a", 1, 0}, {"b", 0, 0}, {"c", 1, 2}, {"d", 0, 1}, {"e", 2, 4}}
	same(t, "three ways", told(Merge(keyOf, ways(l)...)), want)
}

// Of keys that do not rise each way still hands out one item a step at most.
func TestMergeThatDoesNotRise(t *testing.T) {
	l := things([][]string{list("c a a"), list("b a"), list("a a b")})
	want := []thing{{"a", 2, 0}, {"a", 2, 1}, {"b", 1, 0}, {"a", 1, 1}, {"c", 0, 0}, {"a", 0, 1}, {"a", 0, 2}}
	same(t, "three ways", told(Merge(keyOf, ways(l)...)), want)
}

func TestMergeOfNumbersAndEntries(t *testing.T) {
	digits := func(n int) string { return strconv.Itoa(n) }
	same(t, "numbers", told(Merge(digits, slices.Values([]int{1, 10, 2}), slices.Values([]int{10, 11, 3}))), []int{1, 10, 11, 2, 3})
	key := func(e table.Entry) string { return e.Key }
	newer := slices.Values([]table.Entry{{Key: "a", Gone: true}, {Key: "c", Value: "3"}})
	older := slices.Values([]table.Entry{{Key: "a", Value: "1"}, {Key: "b", Value: "2"}, {Key: "c", Gone: true}})
	want := []table.Entry{{Key: "a", Gone: true}, {Key: "b", Value: "2"}, {Key: "c", Value: "3"}}
	same(t, "entries", told(Merge(key, newer, older)), want)
}

// drawn are lists of keys, drawn at random; they rise if they are wanted to.
func drawn(r *rand.Rand, most, length, letters int, rise bool) [][]string {
	lists := make([][]string, r.IntN(most+1))
	for i := range lists {
		for range r.IntN(length + 1) {
			key := ""
			for range r.IntN(3) {
				key += string([]byte{byte(r.IntN(letters) * 255 / letters)})
			}
			lists[i] = append(lists[i], key)
		}
		if rise {
			slices.Sort(lists[i])
			lists[i] = slices.Compact(lists[i])
		}
	}
	return lists
}

func TestMergeByWords(t *testing.T) {
	r := rand.New(rand.NewPCG(7, 1))
	for range 3000 {
		l := things(drawn(r, 6, 9, 1+r.IntN(4), r.IntN(3) == 0))
		same(t, "drawn ways", told(Merge(keyOf, ways(l)...)), byWords(keyOf, l...))
	}
}

func TestMergeOfVeryMany(t *testing.T) {
	r := rand.New(rand.NewPCG(7, 2))
	many := things(drawn(r, 2000, 8, 9, false))
	same(t, "many ways", told(Merge(keyOf, ways(many)...)), byWords(keyOf, many...))
	long := things([][]string{nil, nil, nil})
	for i := range 30000 {
		key := strconv.Itoa(100000 + i)
		long[i%3] = append(long[i%3], thing{key, i % 3, i})
		if i%7 == 0 {
			long[(i+1)%3] = append(long[(i+1)%3], thing{key, (i + 1) % 3, i})
		}
	}
	same(t, "long ways", told(Merge(keyOf, ways(long)...)), byWords(keyOf, long...))
	one := make([][]string, 5000)
	for i := range one {
		one[i] = []string{strconv.Itoa(i * 7919 % 5000)}
	}
	same(t, "ways of one item", told(Merge(itself, ways(one)...)), byWords(itself, one...))
}

// The list of the ways is the caller's again when Merge has answered (R4).
func TestMergeKeepsNoList(t *testing.T) {
	for n := 1; n < 4; n++ {
		l := make([]iter.Seq[string], n, n+3)
		for i := range l {
			l[i] = words("a")
		}
		m := Merge(itself, l...)
		for i := range l[:cap(l)] {
			if i >= n && l[:cap(l)][i] != nil {
				t.Fatal("spare room was written to")
			}
			l[:cap(l)][i] = words("x y")
		}
		same(t, "the list was changed", told(m), list("a"))
	}
}

// P7.2

func TestUntil(t *testing.T) {
	for _, c := range []struct{ end, seq, want string }{
		{"c", "a b c a", "a b"},
		{"", "b a", "b a"},
		{"", "", ""},
		{"c", "", ""},
		{"a", "b c", ""},
		{"b", "b c", ""},
		{"bb", "a b c", "a b"},
		{"d", "a b c", "a b c"},
		{"c", "a b c", "a b"},
		{"b", "a a c a", "a a"},
		{"b", "c a", ""},
		{"a", ". a", "."},
		{"\x80", "a \x7f \x80 b", "a \x7f"},
		{"\xff", "a \xfe \xff\x01", "a \xfe"},
	} {
		same(t, "Until "+c.end+" of "+c.seq, told(Until(itself, c.end, words(c.seq))), list(c.want))
	}
	same(t, "of nil", told(Until(itself, "a", nil)), nil)
	same(t, "without an end, of nil", told(Until(itself, "", nil)), nil)
}

func TestUntilOfOtherItems(t *testing.T) {
	l := things([][]string{list("a b d c")})[0]
	same(t, "things", told(Until(keyOf, "d", slices.Values(l))), l[:2])
	same(t, "things, all", told(Until(keyOf, "", slices.Values(l))), l)
	digits := func(n int) string { return strconv.Itoa(n) }
	same(t, "numbers", told(Until(digits, "2", slices.Values([]int{1, 10, 19, 2, 1}))), []int{1, 10, 19})
}

func TestUntilByWords(t *testing.T) {
	r := rand.New(rand.NewPCG(7, 3))
	for range 3000 {
		lists := drawn(r, 1, 8, 3, r.IntN(2) == 0)
		if len(lists) == 0 {
			continue
		}
		end := string([]byte{byte(r.IntN(3) * 85)})[:r.IntN(2)]
		var want []string
		for _, key := range lists[0] {
			if end != "" && key >= end {
				break
			}
			want = append(want, key)
		}
		same(t, "drawn keys until "+end, told(Until(itself, end, slices.Values(lists[0]))), want)
	}
}

type pair struct{ key, value string }

func pairs(seq iter.Seq2[string, string]) []pair {
	var l []pair
	for key, value := range seq {
		l = append(l, pair{key, value})
	}
	return l
}

func TestLive(t *testing.T) {
	for _, c := range []struct {
		l    []table.Entry
		want []pair
	}{
		{[]table.Entry{{Key: "a", Value: "1"}, {Key: "b", Gone: true}, {Key: "c", Value: "3"}}, []pair{{"a", "1"}, {"c", "3"}}},
		{[]table.Entry{{Key: "a", Gone: true}, {Key: "b", Gone: true}}, nil},
		{[]table.Entry{{Key: "b", Value: "1"}, {Key: "a"}, {Key: "a", Value: "2"}}, []pair{{"b", "1"}, {"a", ""}, {"a", "2"}}},
		{[]table.Entry{{Key: "a", Value: "x", Gone: true}, {}, {Gone: true}}, []pair{{"", ""}}},
		{nil, nil},
	} {
		same(t, "Live", pairs(Live(slices.Values(c.l))), c.want)
	}
	same(t, "Live of nil", pairs(Live(nil)), nil)
}

func TestLiveOfATable(t *testing.T) {
	s, e := table.Build([]table.Entry{{Key: "a", Value: "1"}, {Key: "b", Gone: true}, {Key: "c", Value: "3"}})
	tab, f := table.Open(s)
	if e != api.OK || f != api.OK {
		t.Fatal(e, f)
	}
	same(t, "Live", pairs(Live(tab.From("a"))), []pair{{"a", "1"}, {"c", "3"}})
	key := func(e table.Entry) string { return e.Key }
	fresh := slices.Values([]table.Entry{{Key: "a", Gone: true}, {Key: "b", Value: "9"}})
	l := Live(Until(key, "c", Merge(key, fresh, tab.From(""))))
	same(t, "Live until c", pairs(l), []pair{{"b", "9"}})
}

// P7.3

func TestAboveExamples(t *testing.T) {
	for _, c := range []struct{ prefix, want string }{
		{"ab", "ac"},
		{"a\xff", "b"},
		{"\xff", ""},
		{"", ""},
		{"\xff\xff\xff", ""},
		{"a\xff\xff", "b"},
		{"\xff\xffa", "\xff\xffb"},
		{"a\xffb\xff", "a\xffc"},
		{"\xfe", "\xff"},
		{"\xfe\xff", "\xff"},
		{"\x7f", "\x80"},
		{"a\x80", "a\x81"},
		{"\x00", "\x01"},
		{"\x00\xff", "\x01"},
		{"\ufffd", "\xef\xbf\xbe"},
		{"a\ufffd\xff", "a\xef\xbf\xbe"},
		{"\u00ff", "\xc3\xc0"},
	} {
		if got := Above(c.prefix); got != c.want {
			t.Fatalf("Above(%q) is %q, not %q", c.prefix, got, c.want)
		}
	}
}

// texts are all texts of some bytes, up to a length.
func texts(bytes string, length int) []string {
	l := []string{""}
	for from := 0; length > 0; length-- {
		to := len(l)
		for _, s := range l[from:to] {
			for i := range len(bytes) {
				l = append(l, s+bytes[i:i+1])
			}
		}
		from = to
	}
	return l
}

func TestAboveIsTheLeast(t *testing.T) {
	far := strings.Repeat("\xff", 9)
	all := texts("\x00\x01a\x80\xfe\xff", 4)
	for _, prefix := range texts("\x00a\x80\xfe\xff", 3) {
		above := Above(prefix)
		for _, s := range all {
			// Just these are above all texts that begin with prefix.
			over := s > prefix+far && !strings.HasPrefix(s, prefix)
			if over != (above != "" && s >= above) {
				t.Fatalf("Above(%q) is %q, but %q", prefix, above, s)
			}
		}
	}
}

// P7.4

// Of each way no more is taken than what was told of it, passed by with it, and the next item.
func TestMergeTakesNothingAhead(t *testing.T) {
	cs, seqs := counts("a c e", "b c d f", "a b c", "", "f")
	steps := []struct {
		item string
		outs []int
	}{
		{"a", []int{1, 1, 1, 0, 1}},
		{"b", []int{2, 1, 2, 0, 1}},
		{"c", []int{2, 2, 3, 0, 1}},
		{"d", []int{3, 3, 3, 0, 1}},
		{"e", []int{3, 4, 3, 0, 1}},
		{"f", []int{3, 4, 3, 0, 1}},
	}
	m := Merge(itself, seqs...)
	same(t, "ahead of the range", outs(cs), []int{0, 0, 0, 0, 0})
	i := 0
	for item := range m {
		if item != steps[i].item {
			t.Fatalf("step %d tells %s", i, item)
		}
		same(t, "handed out, when "+item+" is told", outs(cs), steps[i].outs)
		i++
	}
	if i != len(steps) || !allLeft(cs, 1) {
		t.Fatal(i, "steps; not all ways have ended")
	}
}

func TestMergeTakesNothingAheadInDrawnWays(t *testing.T) {
	r := rand.New(rand.NewPCG(7, 4))
	for range 500 {
		lists := drawn(r, 5, 6, 3, false)
		var cs []*counted
		var seqs []iter.Seq[string]
		for _, l := range lists {
			c := &counted{items: l}
			cs, seqs = append(cs, c), append(seqs, c.seq)
		}
		taken := make([]int, len(lists)) // of each way, what was told or passed by ahead of this step
		for item := range Merge(itself, seqs...) {
			for i, c := range cs {
				if c.out > taken[i]+1 {
					t.Fatalf("way %d of %q has handed out %d, not %d", i, lists, c.out, taken[i]+1)
				}
				if taken[i] < len(c.items) && c.items[taken[i]] == item {
					taken[i]++
				}
			}
		}
		if !allLeft(cs, 1) {
			t.Fatal("not all ways have ended")
		}
	}
}

// Whoever leaves finds every way left when the range is over.
func TestMergeLeft(t *testing.T) {
	lines := []string{"a c e", "b c d f", "", "a g"}
	for n := 1; n <= len(lines); n++ {
		whole := told(Merge(itself, func() []iter.Seq[string] { _, s := counts(lines[:n]...); return s }()...))
		for stop := 1; stop <= len(whole); stop++ {
			cs, seqs := counts(lines[:n]...)
			m := Merge(itself, seqs...)
			for again := 1; again < 4; again++ {
				var got []string
				for item := range m {
					if got = append(got, item); len(got) == stop {
						break
					}
				}
				same(t, "left", got, whole[:stop])
				if !allLeft(cs, again) {
					t.Fatalf("%d ways, left behind %d: not all ways have ended", n, stop)
				}
			}
			same(t, "gone over again, whole", told(m), whole)
		}
	}
}

// What has not been told when the range is left was not taken.
func TestMergeLeftTakesNoMore(t *testing.T) {
	cs, seqs := counts("a b", "a b c", "c")
	for range Merge(itself, seqs...) {
		break
	}
	same(t, "handed out", outs(cs), []int{1, 1, 1})
}

func TestUntilAndLiveTakeNothingAhead(t *testing.T) {
	c := &counted{items: list("a b c d")}
	for _, end := range []string{"c", ""} {
		i := 0
		for range Until(itself, end, c.seq) {
			if i++; c.out != i {
				t.Fatalf("Until %s has taken %d at step %d", end, c.out, i)
			}
			if i == 2 && end == "" {
				break
			}
		}
	}
	if c.begun != 2 || c.ended != 2 || c.out != 2 {
		t.Fatal(c)
	}
	for range Until(itself, "b", c.seq) {
	}
	if c.out != 2 || c.ended != 3 {
		t.Fatal("Until took more than the first item that is not below the end", c)
	}
	out, ended := 0, 0
	entries := func(yield func(table.Entry) bool) {
		defer func() { ended++ }()
		out = 0
		for _, e := range []table.Entry{{Key: "a"}, {Key: "b", Gone: true}, {Key: "c"}, {Key: "d", Gone: true}} {
			if out++; !yield(e) {
				return
			}
		}
	}
	l := Live(entries)
	for range 2 {
		for key := range l {
			if want := map[string]int{"a": 1, "c": 3}[key]; out != want {
				t.Fatalf("Live has taken %d at %s", out, key)
			}
		}
		for range l {
			break
		}
		if out != 1 {
			t.Fatal("Live went on when it was left")
		}
	}
	if ended != 4 {
		t.Fatal(ended)
	}
}

// Until goes by its items one by one, and over again, also within itself.
func TestUntilAndLiveAgain(t *testing.T) {
	u := Until(itself, "c", words("a b c"))
	l := Live(slices.Values([]table.Entry{{Key: "a"}, {Key: "b", Gone: true}, {Key: "c"}}))
	var got []string
	for a := range u {
		for b := range u {
			for key := range l {
				got = append(got, a+b+key)
			}
		}
	}
	same(t, "within one another", got, list("aaa aac aba abc baa bac bba bbc"))
}

func TestMergeWithinItself(t *testing.T) {
	m := Merge(itself, words("a c"), words("b c"))
	var got []string
	for a := range m {
		for b := range m {
			if b > "b" {
				break
			}
			got = append(got, a+b)
		}
	}
	same(t, "within one another", got, list("aa ab ba bb ca cb"))
}

// A way that can be gone over just once is gone over once.
func TestMergeOfWaysForOnce(t *testing.T) {
	once := func(line string) iter.Seq[string] {
		rest := list(line)
		return func(yield func(string) bool) {
			for len(rest) > 0 {
				item := rest[0]
				rest = rest[1:]
				if !yield(item) {
					return
				}
			}
		}
	}
	m := Merge(itself, once("a c e"), once("b d"))
	for item := range m {
		if item == "b" {
			break
		}
	}
	// c was the first way's next item, and is gone with that range.
	same(t, "the rest", told(m), list("d e"))
}

func TestMergeOfMerges(t *testing.T) {
	cs, seqs := counts("a d g", "b d h", "c d i", "a b c d")
	m := Merge(itself, Merge(itself, seqs[0], seqs[1]), Until(itself, "i", Merge(itself, seqs[2:]...)))
	same(t, "whole", told(m), list("a b c d g h"))
	for item := range m {
		if item == "d" {
			break
		}
	}
	if !allLeft(cs, 2) {
		t.Fatal("not all ways have ended")
	}
	same(t, "handed out", outs(cs), []int{2, 2, 2, 4})
}

// A sequence can be drawn from item by item, too.
func TestMergePulled(t *testing.T) {
	cs, seqs := counts("a c", "b c d")
	next, stop := iter.Pull(Merge(itself, seqs...))
	for _, want := range list("a b c") {
		if got, ok := next(); !ok || got != want {
			t.Fatal(got, ok)
		}
	}
	stop()
	if !allLeft(cs, 1) {
		t.Fatal("not all ways have ended")
	}
}

// An endless way is no matter to whoever leaves it.
func TestMergeOfEndlessWays(t *testing.T) {
	endless := func(from, step int) iter.Seq[string] {
		return func(yield func(string) bool) {
			for i := from; yield(strconv.Itoa(1000000 + i)); i += step {
			}
		}
	}
	n := 0
	for item := range Merge(itself, endless(0, 2), endless(1, 2), endless(0, 3)) {
		if item != strconv.Itoa(1000000+n) {
			t.Fatal(item)
		}
		if n++; n == 1000 {
			break
		}
	}
}

// A range that is left by a panic, or for good, leaves the ways all the same; and the panic goes on.
func TestMergeLeftByPanic(t *testing.T) {
	for n := 1; n < 4; n++ {
		cs, seqs := counts([]string{"a b", "a c", "b"}[:n]...)
		func() {
			defer func() {
				if r := recover(); r != "out" {
					t.Fatalf("the panic of the range came out as %v", r)
				}
			}()
			for range Merge(itself, seqs...) {
				panic("out")
			}
		}()
		if !allLeft(cs, 1) {
			t.Fatal("not all ways have ended")
		}
		var wait sync.WaitGroup
		wait.Go(func() {
			for range Merge(itself, seqs...) {
				runtime.Goexit()
			}
		})
		wait.Wait()
		if !allLeft(cs, 2) {
			t.Fatal("not all ways have ended")
		}
	}
	for _, seq := range []iter.Seq[string]{Until(itself, "c", words("a")), Until(itself, "", words("a"))} {
		func() {
			defer func() {
				if r := recover(); r != "out" {
					t.Fatalf("the panic of the range came out as %v", r)
				}
			}()
			for range seq {
				panic("out")
			}
		}()
	}
	defer func() {
		if r := recover(); r != "out" {
			t.Fatalf("the panic of the range came out as %v", r)
		}
	}()
	for range Live(slices.Values([]table.Entry{{Key: "a"}})) {
		panic("out")
	}
}

func TestMergeLeftByReturn(t *testing.T) {
	cs, seqs := counts("a b", "a c")
	first := func() string {
		for item := range Merge(itself, seqs...) {
			for inner := range Merge(itself, seqs...) {
				return item + inner
			}
		}
		return ""
	}
	if got := first(); got != "aa" || !allLeft(cs, 2) {
		t.Fatal(got, cs[0], cs[1])
	}
}

// Nothing goes on when a range is over: in a bubble whatever waits for ever is a failure.
func TestMergeLeavesNothingBehind(t *testing.T) {
	synctest.Test(t, func(t *testing.T) {
		lists := drawn(rand.New(rand.NewPCG(7, 5)), 40, 9, 5, false)
		m := Merge(itself, ways(lists)...)
		whole := told(m)
		for stop := range whole {
			for item := range m {
				if item == whole[stop] {
					break
				}
			}
		}
		for range Merge(nil, ways(lists)...) {
		}
	})
}

// Ways of one range may have things in common: they never run at the same time, nor beside the one that ranges.
func TestMergeDoesOneThingAtATime(t *testing.T) {
	busy := false
	step := func() {
		if busy {
			t.Error("two things are done at the same time")
		}
		busy = true
		runtime.Gosched()
		busy = false
	}
	way := func(line string) iter.Seq[string] {
		return func(yield func(string) bool) {
			defer step()
			for _, item := range list(line) {
				step()
				if !yield(item) {
					return
				}
				step()
			}
		}
	}
	m := Merge(itself, way("a b c"), way("b d"), way("a e f"))
	for range 200 {
		for item := range m {
			step()
			if item == "d" {
				break
			}
		}
		step()
		for range m {
			step()
		}
		step()
	}
}

// R1: what is handed in may be nothing, or panic: what is told ends there.

func TestNoKey(t *testing.T) {
	same(t, "no key, no way", told(Merge[string](nil)), nil)
	same(t, "no key", told(Merge(nil, words("a"), words("b"))), nil)
	same(t, "no key, one way", told(Merge(nil, words("b a"))), list("b a"))
	same(t, "no key, ways without items", told(Merge(nil, words(""), words(""))), nil)
	same(t, "no key, until", told(Until(nil, "c", words("a b"))), nil)
	same(t, "no key, no end", told(Until(nil, "", words("b a"))), list("b a"))
	same(t, "no key, no items", told(Until(nil, "c", words(""))), nil)
}

func TestKeyThatPanics(t *testing.T) {
	key := func(s string) string {
		if s == "x" {
			panic(s)
		}
		return s
	}
	cs, seqs := counts("a c", "b x d")
	same(t, "Merge", told(Merge(key, seqs...)), list("a b"))
	if !allLeft(cs, 1) {
		t.Fatal("not all ways have ended")
	}
	cs, seqs = counts("a", "x", "b")
	same(t, "Merge", told(Merge(key, seqs...)), nil)
	if cs[0].ended != 1 || cs[1].ended != 1 || cs[2].begun != cs[2].ended {
		t.Fatal("not all ways have ended")
	}
	same(t, "Until", told(Until(key, "c", words("a x b"))), list("a"))
}

// breaking is a way that panics behind some items, and also when it is left.
func breaking(line string) iter.Seq[string] {
	return func(yield func(string) bool) {
		for _, item := range list(line) {
			if !yield(item) {
				break
			}
		}
		panic("way")
	}
}

func TestWayThatPanics(t *testing.T) {
	same(t, "Merge", told(Merge(itself, breaking("a c"), words("b d"))), list("a b c d"))
	same(t, "Merge, at once", told(Merge(itself, breaking(""), words("b d"))), list("b d"))
	same(t, "Merge of one", told(Merge(itself, breaking("b a"))), list("b a"))
	same(t, "Until", told(Until(itself, "b", breaking("a"))), list("a"))
	same(t, "Until, left by it", told(Until(itself, "b", breaking("a b"))), list("a"))
	same(t, "Until without an end", told(Until(itself, "", breaking("a"))), list("a"))
	for n := 1; n < 3; n++ {
		l := []iter.Seq[string]{breaking("a c"), breaking("b d")}[:n]
		for range Merge(itself, l...) {
			break
		}
	}
	got := pairs(Live(func(yield func(table.Entry) bool) {
		yield(table.Entry{Key: "a"})
		panic("way")
	}))
	same(t, "Live", got, []pair{{"a", ""}})
}

// deaf is a way that goes on when it is left.
func deaf(line string) iter.Seq[string] {
	return func(yield func(string) bool) {
		for _, item := range list(line) {
			yield(item)
		}
	}
}

func TestDeafWay(t *testing.T) {
	for n := 1; n < 3; n++ {
		l := []iter.Seq[string]{deaf("a c e"), deaf("b d f")}[:n]
		var got []string
		for item := range Merge(itself, l...) {
			got = append(got, item)
			if len(got) == 2 {
				break
			}
		}
		if len(got) != 2 {
			t.Fatal(got)
		}
	}
	same(t, "Until", told(Until(itself, "b", deaf("a b c"))), list("a"))
	for range Until(itself, "b", deaf("a a")) {
		break
	}
	for range Live(func(yield func(table.Entry) bool) {
		yield(table.Entry{Key: "a"})
		yield(table.Entry{Key: "b"})
	}) {
		break
	}
}

// P7.5

func TestMergeOfWaysThatRise(t *testing.T) {
	r := rand.New(rand.NewPCG(7, 6))
	for range 1500 {
		lists := drawn(r, 6, 12, 1+r.IntN(5), true)
		l := things(lists)
		got := told(Merge(keyOf, ways(l)...))
		var keys []string
		for i, item := range got {
			if i > 0 && cmp.Compare(got[i-1].key, item.key) >= 0 {
				t.Fatalf("%q is told behind %q", item.key, got[i-1].key)
			}
			keys = append(keys, item.key)
			for from, other := range lists {
				if _, there := slices.BinarySearch(other, item.key); there != (from == item.from) && from <= item.from {
					t.Fatalf("%q is told of way %d, not of the first one that has it", item.key, item.from)
				}
			}
		}
		all := slices.Concat(lists...)
		slices.Sort(all)
		same(t, "the keys", keys, slices.Compact(all))
	}
}

func TestMergeOfOneAndOfNothing(t *testing.T) {
	r := rand.New(rand.NewPCG(7, 7))
	for range 500 {
		lists := drawn(r, 1, 9, 3, false)
		if len(lists) == 0 {
			continue
		}
		one := slices.Values(lists[0])
		none := words("")
		same(t, "one way", told(Merge(itself, one)), lists[0])
		same(t, "with ways without items", told(Merge(itself, none, one, nil, none)), lists[0])
	}
}

func TestAbovePrefixes(t *testing.T) {
	all := texts("\x00a\x80\xff", 4)
	for _, prefix := range texts("\x00a\x80\xff", 3) {
		above := Above(prefix)
		for _, s := range all {
			within := s >= prefix && (above == "" || s < above)
			if strings.HasPrefix(s, prefix) != within {
				t.Fatalf("%q: prefix %q, above %q", s, prefix, above)
			}
		}
	}
	r := rand.New(rand.NewPCG(7, 8))
	for range 20000 {
		b := make([]byte, r.IntN(6))
		for i := range b {
			b[i] = byte(255 - r.IntN(3)*r.IntN(100))
		}
		prefix := string(b)
		s := prefix[:r.IntN(len(prefix)+1)] + string([]byte{byte(r.Uint32()), 255})[:r.IntN(3)]
		above := Above(prefix)
		within := s >= prefix && s < above || above == "" && strings.HasPrefix(s, prefix)
		if strings.HasPrefix(s, prefix) != within {
			t.Fatalf("%q: prefix %q, above %q", s, prefix, above)
		}
	}
}

// What stands between a prefix and Above of it is what begins with it: so a prefix's keys are told.
func TestPrefixOfARow(t *testing.T) {
	keys := list("a a\xff a\xff\xff a\xff\xffz b \xff \xff\xff")
	for _, c := range []struct{ prefix, want string }{
		{"a", "a a\xff a\xff\xff a\xff\xffz"},
		{"a\xff", "a\xff a\xff\xff a\xff\xffz"},
		{"\xff", "\xff \xff\xff"},
		{"", "a a\xff a\xff\xff a\xff\xffz b \xff \xff\xff"},
		{"c", ""},
	} {
		from, _ := slices.BinarySearch(keys, c.prefix)
		same(t, "keys with "+c.prefix, told(Until(itself, Above(c.prefix), slices.Values(keys[from:]))), list(c.want))
	}
}
