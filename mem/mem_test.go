package mem

import (
	"bytes"
	"iter"
	"math"
	"math/rand/v2"
	"runtime"
	"slices"
	"strconv"
	"strings"
	"testing"
	"unsafe"
	"weak"
)

// pair is a key with its value.
type pair[V any] struct {
	key string
	v   V
}

// says tells where a call's answer is another one.
func says(t *testing.T, what string, got, wanted bool) {
	t.Helper()
	if got != wanted {
		t.Errorf("%s: %v", what, got)
	}
}

// collect is all that a function hands out.
func collect[V any](seq iter.Seq2[string, V]) []pair[V] {
	var l []pair[V]
	for key, v := range seq {
		l = append(l, pair[V]{key, v})
	}
	return l
}

// row is all that a table has.
func row[V any](m *Mem[V]) []pair[V] { return collect(m.From("")) }

// keysOf is the keys of pairs.
func keysOf[V any](l []pair[V]) []string {
	var keys []string
	for _, p := range l {
		keys = append(keys, p.key)
	}
	return keys
}

// text is pairs to be read by somebody.
func text(l []pair[int]) string {
	var words []string
	for _, p := range l {
		words = append(words, p.key, strconv.Itoa(p.v))
	}
	return strings.Join(words, " ")
}

// tells says where a function hands out something else.
func tells(t *testing.T, what string, seq iter.Seq2[string, int], wanted string) {
	t.Helper()
	if s := text(collect(seq)); s != wanted {
		t.Errorf("%s: %q, not %q", what, s, wanted)
	}
}

// has says where a table has something else.
func has(t *testing.T, m *Mem[int], wanted string) {
	t.Helper()
	tells(t, "the table", m.From(""), wanted)
	if n := len(strings.Fields(wanted)) / 2; m.Len() != n {
		t.Errorf("Len %d, not %d", m.Len(), n)
	}
}

// gets says where a key has another value, or none.
func gets[V comparable](t *testing.T, m *Mem[V], key string, wanted V) {
	t.Helper()
	if v, ok := m.Get(key); v != wanted || !ok {
		t.Errorf("Get(%q): %v, %v; not %v", key, v, ok, wanted)
	}
}

// lacks says where a key is there.
func lacks[V comparable](t *testing.T, m *Mem[V], key string) {
	t.Helper()
	var none V
	if v, ok := m.Get(key); v != none || ok {
		t.Errorf("Get(%q): %v, %v; not none", key, v, ok)
	}
}

// floors says where Floor tells something else.
func floors[V comparable](t *testing.T, m *Mem[V], key, wantedKey string, wanted V, wantedOk bool) {
	t.Helper()
	if k, v, ok := m.Floor(key); k != wantedKey || v != wanted || ok != wantedOk {
		t.Errorf("Floor(%q): %q, %v, %v; not %q, %v, %v", key, k, v, ok, wantedKey, wanted, wantedOk)
	}
}

// of is a table of words, which are keys, each with its value behind it.
func of(t *testing.T, words string) *Mem[int] {
	t.Helper()
	m := New[int]()
	fields := strings.Fields(words)
	for i := 0; i < len(fields); i += 2 {
		v, e := strconv.Atoi(fields[i+1])
		if e != nil {
			t.Fatal(e)
		}
		m.Set(fields[i], v)
	}
	return m
}

// sound says whether a tree is one whose keys rise, whose nodes know how many they are, and none of whose sides is too heavy.
func sound[V any](n *node[V]) bool {
	if n == nil {
		return true
	}
	if n.left != nil && n.left.last().key >= n.key || n.right != nil && n.right.first().key <= n.key {
		return false
	}
	l, r := n.left.count()+1, n.right.count()+1
	return n.size == l+r-1 && l <= 3*r && r <= 3*l && sound(n.left) && sound(n.right)
}

// last is the item with the greatest key of a tree that has one.
func (n *node[V]) last() *item[V] {
	for n.right != nil {
		n = n.right
	}
	return n.item
}

// rising is keys in their order: the one that is a beginning of the other one is less, and a byte above 127 is above all below.
func rising() []string {
	return []string{"", "\x00", "\x00\x00", "\x00a", "A", "Z", "a", "a\x00", "a\x00\x00", "a\x01", "aa", "aaa", "aab", "ab", "a\x7f", "a\x80", "a\xff", "a\xff\xff", "b", "ba", "z", "\x7f", "\x80", "\x80\x00", "\xc3\xa4", "\xc3\xa5", "\xe2\x82\xac", "\xef\xbf\xbd", "\xff", "\xff\x00", "\xff\xfe", "\xff\xff"}
}

// change is a call that changes a table with the keys a and b.
type change struct {
	name string
	do   func(m *Mem[int])
}

func changes() []change {
	return []change{
		{"Set of another key", func(m *Mem[int]) { m.Set("aa", 7) }},
		{"Set of the same key", func(m *Mem[int]) { m.Set("b", 7) }},
		{"Delete", func(m *Mem[int]) { m.Delete("b") }},
		{"Clear", func(m *Mem[int]) { m.Clear() }},
	}
}

func TestExamples(t *testing.T) {
	m := New[int]()
	says(t, "Set(b, 2)", m.Set("b", 2), true)
	says(t, "Set(a, 1)", m.Set("a", 1), true)
	says(t, "Set(b, 3)", m.Set("b", 3), false)
	if m.Len() != 2 {
		t.Error("Len:", m.Len())
	}
	gets(t, m, "b", 3)
	lacks(t, m, "c")

	tells(t, "From()", m.From(""), "a 1 b 3")
	tells(t, "From(aa)", m.From("aa"), "b 3")
	floors(t, m, "ab", "a", 1, true)
	floors(t, m, "A", "", 0, false)
	says(t, "Delete(a)", m.Delete("a"), true)
	says(t, "Delete(a)", m.Delete("a"), false)
	if m.Len() != 1 {
		t.Error("Len:", m.Len())
	}
}

// P5.1

func TestNew(t *testing.T) {
	m := New[int]()
	if m == nil || New[int]() == New[int]() {
		t.Fatal("no table, or two that are one")
	}
	has(t, m, "")
	for _, key := range rising() {
		lacks(t, m, key)
		says(t, "Delete", m.Delete(key), false)
		floors(t, m, key, "", 0, false)
		tells(t, "From", m.From(key), "")
	}
	m.Clear()
	has(t, m, "")
	has(t, m.Twin(), "")
}

func TestSet(t *testing.T) {
	m := New[int]()
	for i, step := range []struct {
		key   string
		v     int
		fresh bool
		has   string
	}{
		{"k", 1, true, "k 1"},
		{"k", 2, false, "k 2"},
		{"k", 2, false, "k 2"},
		{"k", 0, false, "k 0"},
		{"ka", 3, true, "k 0 ka 3"},
		{"j", 4, true, "j 4 k 0 ka 3"},
		{"ka", 5, false, "j 4 k 0 ka 5"},
		{"K", 6, true, "K 6 j 4 k 0 ka 5"},
		{"j", math.MinInt, false, "K 6 j " + strconv.Itoa(math.MinInt) + " k 0 ka 5"},
	} {
		says(t, "Set number "+strconv.Itoa(i), m.Set(step.key, step.v), step.fresh)
		gets(t, m, step.key, step.v)
		has(t, m, step.has)
	}
}

func TestSetBehindDelete(t *testing.T) {
	m := of(t, "a 1 b 2 c 3")
	for range 3 {
		says(t, "Delete", m.Delete("b"), true)
		says(t, "Delete", m.Delete("b"), false)
		lacks(t, m, "b")
		has(t, m, "a 1 c 3")
		says(t, "Set", m.Set("b", 9), true)
		says(t, "Set", m.Set("b", 2), false)
		has(t, m, "a 1 b 2 c 3")
	}
}

func TestGetOfEachKey(t *testing.T) {
	m := New[int]()
	for i, key := range rising() {
		for _, other := range rising()[i:] {
			lacks(t, m, other)
		}
		says(t, "Set", m.Set(key, i), true)
		for j, other := range rising()[:i+1] {
			gets(t, m, other, j)
		}
	}
	// What is near a key is another one.
	for _, key := range []string{"\x00\x00\x00", "aaaa", "a\x00a", "c", "B", "\xff\xff\xff", strings.Repeat("a", 1<<16)} {
		lacks(t, m, key)
	}
}

func TestEmptyKey(t *testing.T) {
	m := New[int]()
	says(t, "Delete", m.Delete(""), false)
	says(t, "Set", m.Set("", 5), true)
	says(t, "Set", m.Set("", 6), false)
	gets(t, m, "", 6)
	lacks(t, m, "\x00")
	floors(t, m, "", "", 6, true)
	floors(t, m, "\xff", "", 6, true)
	if l := row(m); len(l) != 1 || l[0] != (pair[int]{"", 6}) {
		t.Errorf("the table: %v", l)
	}
	if l := collect(m.From("\x00")); len(l) != 0 {
		t.Errorf("From: %v", l)
	}
	says(t, "Delete", m.Delete(""), true)
	says(t, "Delete", m.Delete(""), false)
	has(t, m, "")
}

func TestLongKeys(t *testing.T) {
	m := New[int]()
	long := strings.Repeat("k", 1<<20)
	says(t, "Set", m.Set(long, 1), true)
	says(t, "Set", m.Set(long[1:], 2), true)
	says(t, "Set", m.Set(long+"k", 3), true)
	gets(t, m, long, 1)
	gets(t, m, long[1:], 2)
	gets(t, m, long+"k", 3)
	lacks(t, m, long[2:])
	floors(t, m, long+"a", long, 1, true)
	says(t, "Delete", m.Delete(long), true)
	floors(t, m, long+"a", long[1:], 2, true)
}

func TestDeleteOfEachKey(t *testing.T) {
	keys := rising()
	for seed := range 50 {
		r := rand.New(rand.NewPCG(1, uint64(seed)))
		m := New[int]()
		for i, key := range keys {
			m.Set(key, i)
		}
		left := slices.Clone(keys)
		for _, i := range r.Perm(len(keys)) {
			says(t, "Delete", m.Delete(keys[i]), true)
			says(t, "Delete", m.Delete(keys[i]), false)
			lacks(t, m, keys[i])
			left = slices.DeleteFunc(left, func(key string) bool { return key == keys[i] })
			if !slices.Equal(keysOf(row(m)), left) || m.Len() != len(left) {
				t.Fatalf("seed %d: behind Delete(%q): %q, Len %d", seed, keys[i], keysOf(row(m)), m.Len())
			}
		}
	}
}

func TestLen(t *testing.T) {
	m := New[int]()
	for i, step := range []struct {
		do     func()
		wanted int
	}{
		{func() { m.Set("b", 1) }, 1},
		{func() { m.Set("b", 2) }, 1},
		{func() { m.Set("a", 1) }, 2},
		{func() { m.Set("", 0) }, 3},
		{func() { m.Set("c", 1) }, 4},
		{func() { m.Delete("d") }, 4},
		{func() { m.Delete("b") }, 3},
		{func() { m.Delete("b") }, 3},
		{func() { m.Get("a") }, 3},
		{func() { m.Floor("a") }, 3},
		{func() { row(m) }, 3},
		{func() { m.Twin().Set("z", 1) }, 3},
		{func() { Other(m, func(string, int) (int, bool) { return 0, false }) }, 3},
		{func() { m.Clear() }, 0},
		{func() { m.Delete("a") }, 0},
		{func() { m.Set("a", 1) }, 1},
	} {
		step.do()
		if m.Len() != step.wanted {
			t.Fatalf("behind number %d: %d, not %d", i, m.Len(), step.wanted)
		}
	}
}

func TestClear(t *testing.T) {
	for n := range 40 {
		m := New[int]()
		for i := range n {
			m.Set(strconv.Itoa(i), i)
		}
		m.Clear()
		has(t, m, "")
		for i := range n {
			lacks(t, m, strconv.Itoa(i))
			says(t, "Delete", m.Delete(strconv.Itoa(i)), false)
		}
		floors(t, m, "zzz", "", 0, false)
		says(t, "Set", m.Set("b", 1), true)
		has(t, m, "b 1")
		m.Clear()
		m.Clear()
		has(t, m, "")
	}
}

// holds sets values, one a key, and says where one of them doesn't come back.
func holds[V any](t *testing.T, what string, same func(x, y V) bool, values ...V) {
	t.Helper()
	m := New[V]()
	key := func(i int) string { return "k" + strconv.Itoa(i) }
	for i, v := range values {
		says(t, what+": Set", m.Set(key(i), v), true)
	}
	for i, v := range values {
		if got, ok := m.Get(key(i)); !ok || !same(got, v) {
			t.Errorf("%s: Get number %d: %v, %v", what, i, got, ok)
		}
		if k, got, ok := m.Floor(key(i) + "\x00"); !ok || k != key(i) || !same(got, v) {
			t.Errorf("%s: Floor number %d: %q, %v, %v", what, i, k, got, ok)
		}
	}
	for i, p := range row(m) {
		if p.key != key(i) || !same(p.v, values[i]) {
			t.Errorf("%s: From number %d: %q, %v", what, i, p.key, p.v)
		}
	}
	if m.Len() != len(values) {
		t.Errorf("%s: Len %d", what, m.Len())
	}
	var zero V
	if v, ok := m.Get("x"); ok || !same(v, zero) {
		t.Errorf("%s: Get of a key that isn't there: %v, %v", what, v, ok)
	}
	if k, v, ok := m.Floor("a"); k != "" || ok || !same(v, zero) {
		t.Errorf("%s: Floor of a key below all: %q, %v, %v", what, k, v, ok)
	}
	for i := range values {
		says(t, what+": Delete", m.Delete(key(i)), true)
	}
}

// What a table holds may be whatever there is, its zero value, too.
func TestAnyValues(t *testing.T) {
	type place struct {
		x, y int
		name string
		more []int
	}
	equal := func(x, y place) bool {
		return x.x == y.x && x.y == y.y && x.name == y.name && slices.Equal(x.more, y.more)
	}
	holds(t, "int", func(x, y int) bool { return x == y }, 0, 1, -1, math.MaxInt, math.MinInt, 0)
	holds(t, "byte", func(x, y byte) bool { return x == y }, 0, 255, 0)
	holds(t, "float", func(x, y float64) bool { return math.Float64bits(x) == math.Float64bits(y) }, 0, math.Copysign(0, -1), math.NaN(), math.Inf(1))
	holds(t, "bool", func(x, y bool) bool { return x == y }, false, true)
	holds(t, "text", func(x, y string) bool { return x == y }, "", "a", "\xff", "")
	holds(t, "struct", equal, place{}, place{x: 1}, place{name: "n", more: []int{1}}, place{})
	holds(t, "empty struct", func(x, y struct{}) bool { return true }, struct{}{}, struct{}{})
	holds(t, "array", func(x, y [3]int) bool { return x == y }, [3]int{}, [3]int{1, 2, 3})
	holds(t, "slice", func(x, y []int) bool { return slices.Equal(x, y) && (x == nil) == (y == nil) }, nil, []int{}, []int{1, 2})
	holds(t, "map", func(x, y map[int]int) bool { return len(x) == len(y) && (x == nil) == (y == nil) }, nil, map[int]int{}, map[int]int{1: 1})
	holds(t, "pointer", func(x, y *int) bool { return x == y }, nil, new(int), new(int))
	holds[any](t, "any", func(x, y any) bool { return x == y }, nil, 1, "1", int64(1), struct{}{})
	holds(t, "function", func(x, y func() int) bool { return (x == nil) == (y == nil) && (x == nil || x() == y()) }, nil, func() int { return 1 }, func() int { return 2 })
	holds(t, "great array", func(x, y [1 << 12]int) bool { return x == y }, [1 << 12]int{}, [1 << 12]int{5: 5})
	holds(t, "table", func(x, y *Mem[int]) bool { return x == y }, nil, New[int](), New[int]())
	holds(t, "table itself", func(x, y Mem[int]) bool { return x == y }, Mem[int]{}, *of(t, "a 1"))
}

// A value that is there and zero is there.
func TestZeroValueIsThere(t *testing.T) {
	m := New[int]()
	says(t, "Set", m.Set("a", 0), true)
	says(t, "Set", m.Set("a", 0), false)
	gets(t, m, "a", 0)
	floors(t, m, "b", "a", 0, true)
	has(t, m, "a 0")
	says(t, "Delete", m.Delete("a"), true)
	lacks(t, m, "a")
}

// P5.2

func TestFloor(t *testing.T) {
	m := of(t, "b 2 d 4 dd 5 f 6")
	for _, c := range []struct {
		key, wanted string
		v           int
		ok          bool
	}{
		{"", "", 0, false}, {"\x00", "", 0, false}, {"A", "", 0, false}, {"a", "", 0, false}, {"a\xff\xff", "", 0, false},
		{"b", "b", 2, true}, {"b\x00", "b", 2, true}, {"bb", "b", 2, true}, {"c", "b", 2, true}, {"c\xff", "b", 2, true},
		{"d", "d", 4, true}, {"d\x00", "d", 4, true}, {"dc\xff", "d", 4, true},
		{"dd", "dd", 5, true}, {"dd\x00", "dd", 5, true}, {"de", "dd", 5, true}, {"e\x80", "dd", 5, true},
		{"f", "f", 6, true}, {"f\x00", "f", 6, true}, {"g", "f", 6, true}, {"\x7f", "f", 6, true}, {"\x80", "f", 6, true}, {"\xff\xff", "f", 6, true},
	} {
		floors(t, m, c.key, c.wanted, c.v, c.ok)
	}
	m.Set("d", 44)
	floors(t, m, "d", "d", 44, true)
	m.Delete("d")
	floors(t, m, "d", "b", 2, true)
	m.Delete("b")
	floors(t, m, "d", "", 0, false)
	has(t, m, "dd 5 f 6")
}

// Floor on each key, and right above it, of tables that have some of the keys.
func TestFloorOfSomeKeys(t *testing.T) {
	keys := rising()
	for seed := range 100 {
		r := rand.New(rand.NewPCG(2, uint64(seed)))
		m, there := New[int](), map[int]bool{}
		for _, i := range r.Perm(len(keys))[:r.IntN(len(keys))] {
			m.Set(keys[i], i)
			there[i] = true
		}
		best := -1
		for i, key := range keys {
			if there[i] {
				best = i
			}
			wanted, v := "", 0
			if best >= 0 {
				wanted, v = keys[best], best
			}
			floors(t, m, key, wanted, v, best >= 0)
			if i+1 == len(keys) || keys[i+1] != key+"\x00" {
				floors(t, m, key+"\x00", wanted, v, best >= 0)
			}
		}
	}
}

// P5.3

func TestFrom(t *testing.T) {
	m := of(t, "b 2 d 4 dd 5 f 6")
	for _, c := range []struct{ key, wanted string }{
		{"", "b 2 d 4 dd 5 f 6"}, {"A", "b 2 d 4 dd 5 f 6"}, {"a\xff", "b 2 d 4 dd 5 f 6"}, {"b", "b 2 d 4 dd 5 f 6"},
		{"b\x00", "d 4 dd 5 f 6"}, {"c", "d 4 dd 5 f 6"}, {"d", "d 4 dd 5 f 6"},
		{"d\x00", "dd 5 f 6"}, {"dd", "dd 5 f 6"}, {"dd\x00", "f 6"}, {"e\xff", "f 6"}, {"f", "f 6"},
		{"f\x00", ""}, {"g", ""}, {"\x80", ""}, {"\xff", ""},
	} {
		tells(t, "From("+c.key+")", m.From(c.key), c.wanted)
	}
	has(t, m, "b 2 d 4 dd 5 f 6")
}

func TestFromEachKey(t *testing.T) {
	keys := rising()
	m := New[int]()
	for _, i := range rand.New(rand.NewPCG(3, 3)).Perm(len(keys)) {
		m.Set(keys[i], i)
	}
	for i, key := range keys {
		l := collect(m.From(key))
		if !slices.Equal(keysOf(l), keys[i:]) {
			t.Fatalf("From(%q): %q", key, keysOf(l))
		}
		for j, p := range l {
			if p.v != i+j {
				t.Errorf("From(%q): %q has %d", key, p.key, p.v)
			}
		}
	}
}

// first is what a function hands out, left behind so many; it must hand out none behind a no.
func first(t *testing.T, seq iter.Seq2[string, int], n int) []pair[int] {
	t.Helper()
	var l []pair[int]
	seq(func(key string, v int) bool {
		l = append(l, pair[int]{key, v})
		if len(l) > n {
			t.Fatalf("handed out number %d behind a no at %d", len(l), n)
		}
		return len(l) < n
	})
	return l
}

func TestFromLeftEarly(t *testing.T) {
	for size := range 30 {
		m := New[int]()
		for i := range size {
			m.Set(string(rune('A'+i)), i)
		}
		for from := range size + 1 {
			seq := m.From(string(rune('A' + from)))
			all := row(m)[from:]
			for n := 1; n <= len(all); n++ {
				if l := first(t, seq, n); !slices.Equal(l, all[:n]) {
					t.Fatalf("%d of %q: %q", n, text(all), text(l))
				}
				if l := collect(seq); !slices.Equal(l, all) {
					t.Fatalf("gone over again: %q, not %q", text(l), text(all))
				}
			}
		}
	}
}

func TestFromWithinItself(t *testing.T) {
	m := of(t, "a 1 b 2 c 3")
	seq := m.From("")
	var l []string
	for x := range seq {
		for y := range seq {
			if y == "c" && x == "a" {
				break
			}
			l = append(l, x+y)
		}
	}
	if s := strings.Join(l, " "); s != "aa ab ba bb bc ca cb cc" {
		t.Error(s)
	}
	next, stop := iter.Pull2(seq)
	defer stop()
	for key, v := range seq {
		if k, w, ok := next(); k != key || w != v || !ok {
			t.Errorf("%q, %d, %v beside %q, %d", k, w, ok, key, v)
		}
	}
}

// What From gave tells what was there, though it is gone over later, or while the table is changed.
func TestChangedWhileGoneOver(t *testing.T) {
	words := "a 1 b 2 c 3 d 4"
	for _, c := range changes() {
		for at := range 4 {
			m := of(t, words)
			seq, later := m.From(""), m.From("b")
			i := 0
			var l []pair[int]
			for key, v := range seq {
				if i == at {
					c.do(m)
				}
				i++
				l = append(l, pair[int]{key, v})
			}
			if text(l) != words {
				t.Errorf("%s at %d: %q", c.name, at, text(l))
			}
			tells(t, c.name+", gone over again", seq, words)
			tells(t, c.name+", gone over later", later, "b 2 c 3 d 4")
			wanted := of(t, words)
			c.do(wanted)
			has(t, m, text(row(wanted)))
		}
	}
}

func TestEveryKeyChangedWhileGoneOver(t *testing.T) {
	m := New[int]()
	for i := range 300 {
		m.Set(strconv.Itoa(1000+i), i)
	}
	wanted := row(m)
	var l []pair[int]
	for key, v := range m.From("") {
		l = append(l, pair[int]{key, v})
		m.Set(key+"x", v)
		m.Set("0"+key, v)
		if v%2 == 0 {
			m.Delete(key)
		} else {
			m.Set(key, -v)
		}
		if v%50 == 0 {
			m = m.Twin()
		}
		if v == 200 {
			m.Clear()
		}
	}
	if !slices.Equal(l, wanted) {
		t.Errorf("told: %q", text(l))
	}
	if m.Len() != 99+99+50 {
		t.Error("Len:", m.Len())
	}
}

func TestFromOfATableTwinnedMeanwhile(t *testing.T) {
	m := of(t, "a 1 b 2 c 3")
	var l []string
	for key := range m.From("") {
		x := m.Twin()
		x.Delete("c")
		x.Set("bb", 1)
		l = append(l, key)
	}
	if strings.Join(l, "") != "abc" {
		t.Error(l)
	}
	has(t, m, "a 1 b 2 c 3")
}

// P5.4

func TestTwin(t *testing.T) {
	for _, words := range []string{"", "a 1", "a 1 b 2", "a 1 b 2 c 3 d 4 e 5 f 6 g 7"} {
		m := of(t, words)
		x := m.Twin()
		if x == nil || x == m {
			t.Fatal("no twin, or the table itself")
		}
		has(t, x, words)
		has(t, m, words)
	}
}

func TestTwinAndTableDoNotTouch(t *testing.T) {
	words := "a 1 b 2 c 3 d 4 e 5"
	for _, c := range changes() {
		wanted := of(t, words)
		c.do(wanted)
		changed := text(row(wanted))

		m := of(t, words)
		x, y := m.Twin(), m.Twin()
		z := x.Twin()
		c.do(m)
		has(t, m, changed)
		has(t, x, words)
		c.do(x)
		has(t, x, changed)
		has(t, y, words)
		has(t, z, words)
		y.Set("y", 1)
		z.Delete("a")
		has(t, m, changed)
		has(t, x, changed)
		has(t, y, words+" y 1")
		has(t, z, "b 2 c 3 d 4 e 5")
	}
}

// Each of many twins goes on alone.
func TestTwinsOfTwins(t *testing.T) {
	r := rand.New(rand.NewPCG(4, 4))
	all := []*Mem[int]{New[int]()}
	wanted := []map[string]int{{}}
	for i := range 4000 {
		at := r.IntN(len(all))
		if len(all) < 40 && r.IntN(20) == 0 {
			w := map[string]int{}
			for k, v := range wanted[at] {
				w[k] = v
			}
			all, wanted = append(all, all[at].Twin()), append(wanted, w)
		}
		key := strconv.Itoa(r.IntN(200))
		if r.IntN(3) > 0 {
			all[at].Set(key, i)
			wanted[at][key] = i
		} else {
			all[at].Delete(key)
			delete(wanted[at], key)
		}
	}
	for i, m := range all {
		if m.Len() != len(wanted[i]) || !sound(m.root) {
			t.Fatalf("number %d: Len %d, not %d", i, m.Len(), len(wanted[i]))
		}
		for _, p := range row(m) {
			if v, ok := wanted[i][p.key]; !ok || v != p.v {
				t.Fatalf("number %d: %q has %d, not %d", i, p.key, p.v, v)
			}
		}
	}
}

// length is a value's length, if that is above none.
func length(key string, v string) (int, bool) { return len(v), len(v) > 0 }

func TestOther(t *testing.T) {
	m := New[string]()
	for key, v := range map[string]string{"a": "xx", "": "empty", "b": "", "c": "xxx", "\xff": "z"} {
		m.Set(key, v)
	}
	before := row(m)
	o := Other(m, length)
	if l := row(o); !slices.Equal(l, []pair[int]{{"", 5}, {"a", 2}, {"c", 3}, {"\xff", 1}}) {
		t.Errorf("of some: %v", l)
	}
	o = Other(m, func(key, v string) (int, bool) { return len(v), true })
	if l := row(o); !slices.Equal(l, []pair[int]{{"", 5}, {"a", 2}, {"b", 0}, {"c", 3}, {"\xff", 1}}) {
		t.Errorf("of all: %v", l)
	}
	o = Other(m, func(key, v string) (int, bool) { return len(v), false })
	if o == nil || o.Len() != 0 || len(row(o)) != 0 {
		t.Errorf("of none: %v", row(o))
	}
	says(t, "Set", o.Set("k", 1), true)
	has(t, o, "k 1")
	if !slices.Equal(row(m), before) {
		t.Errorf("the table: %v", row(m))
	}
}

func TestOtherAsksOnceForEachByRisingKeys(t *testing.T) {
	keys := rising()
	m := New[int]()
	for _, i := range rand.New(rand.NewPCG(6, 6)).Perm(len(keys)) {
		m.Set(keys[i], i)
	}
	for _, modulus := range []int{1, 2, 3, 100} {
		var asked []string
		o := Other(m, func(key string, v int) (string, bool) {
			if keys[v] != key {
				t.Errorf("asked of %q with %d", key, v)
			}
			asked = append(asked, key)
			return "v" + strconv.Itoa(v), v%modulus == 0
		})
		if !slices.Equal(asked, keys) {
			t.Fatalf("asked: %q", asked)
		}
		n := 0
		for i, key := range keys {
			if i%modulus == 0 {
				gets(t, o, key, "v"+strconv.Itoa(i))
				n++
			} else {
				lacks(t, o, key)
			}
		}
		if o.Len() != n || !sound(o.root) {
			t.Errorf("Len %d, not %d", o.Len(), n)
		}
	}
}

// A function that changes the table is asked of all that was there when Other was called, and of nothing else.
func TestOtherChangesItsTable(t *testing.T) {
	words := "a 1 b 2 c 3 d 4"
	for _, c := range changes() {
		m, wanted := of(t, words), of(t, words)
		c.do(wanted)
		o := Other(m, func(key string, v int) (int, bool) {
			c.do(m)
			return v * 10, key != "c"
		})
		has(t, o, "a 10 b 20 d 40")
		has(t, m, text(row(wanted)))
	}
	m := of(t, words)
	o := Other(m, func(key string, v int) (*Mem[int], bool) {
		m.Delete(key)
		m.Set(key+"x", v)
		return m.Twin(), true
	})
	has(t, m, "ax 1 bx 2 cx 3 dx 4")
	wanted := []string{"ax 1 b 2 c 3 d 4", "ax 1 bx 2 c 3 d 4", "ax 1 bx 2 cx 3 d 4", "ax 1 bx 2 cx 3 dx 4"}
	for i, p := range row(o) {
		has(t, p.v, wanted[i])
	}
	if o.Len() != 4 {
		t.Error("Len:", o.Len())
	}
}

func TestOtherAndTableDoNotTouch(t *testing.T) {
	words := "a 1 b 2 c 3"
	for _, c := range changes() {
		m := of(t, words)
		o := Other(m, func(key string, v int) (int, bool) { return v, true })
		c.do(m)
		has(t, o, words)
		m = of(t, words)
		c.do(Other(m, func(key string, v int) (int, bool) { return v, true }))
		has(t, m, words)
	}
}

// Other of another one while it is made.
func TestOtherWithinItself(t *testing.T) {
	m := of(t, "a 1 b 2 c 3")
	o := Other(m, func(key string, v int) (int, bool) {
		sum := 0
		for _, w := range Other(m, func(k string, w int) (int, bool) { return w, k <= key }).From("") {
			sum += w
		}
		return sum, true
	})
	has(t, o, "a 1 b 3 c 6")
}

// P5.5

func TestNilTable(t *testing.T) {
	var m *Mem[int]
	for _, key := range rising() {
		says(t, "Set", m.Set(key, 1), false)
		says(t, "Delete", m.Delete(key), false)
		lacks(t, m, key)
		floors(t, m, key, "", 0, false)
		tells(t, "From", m.From(key), "")
	}
	m.Clear()
	has(t, m, "")
	if m.Twin() != nil {
		t.Error("Twin of a nil table")
	}
	o := Other(m, func(key string, v int) (string, bool) {
		t.Error("asked of", key)
		return "", true
	})
	if o == nil || o.Len() != 0 || len(row(o)) != 0 {
		t.Fatal("Other of a nil table")
	}
	says(t, "Set", o.Set("a", "x"), true)
	gets(t, o, "a", "x")
	if o := Other[int, int](m, nil); o == nil || o.Len() != 0 {
		t.Error("Other of a nil table and a nil function")
	}
}

func TestZeroTable(t *testing.T) {
	var m Mem[int]
	has(t, &m, "")
	lacks(t, &m, "")
	floors(t, &m, "\xff", "", 0, false)
	says(t, "Delete", m.Delete("a"), false)
	m.Clear()
	if x := m.Twin(); x == nil {
		t.Error("Twin of the zero table")
	} else {
		says(t, "Set", x.Set("x", 1), true)
		has(t, x, "x 1")
	}
	if o := Other(&m, func(string, int) (int, bool) { return 1, true }); o == nil || o.Len() != 0 {
		t.Error("Other of the zero table")
	}
	has(t, &m, "")
	says(t, "Set", m.Set("b", 2), true)
	says(t, "Set", m.Set("a", 1), true)
	says(t, "Set", m.Set("b", 3), false)
	has(t, &m, "a 1 b 3")
	has(t, m.Twin(), "a 1 b 3")
	m.Clear()
	has(t, &m, "")
}

// P5.6

// orders tells all orders of the numbers below n.
func orders(n int) iter.Seq[[]int] {
	return func(yield func([]int) bool) {
		l := make([]int, n)
		for i := range l {
			l[i] = i
		}
		var from func(at int) bool
		from = func(at int) bool {
			if at == n {
				return yield(l)
			}
			for i := at; i < n; i++ {
				l[at], l[i] = l[i], l[at]
				more := from(at + 1)
				l[at], l[i] = l[i], l[at]
				if !more {
					return false
				}
			}
			return true
		}
		from(0)
	}
}

// Tables into which the same was set last, in whatever order, go over the same; and what is left of them when keys are deleted, in whatever order, too.
func TestWhateverTheOrder(t *testing.T) {
	for n := range 7 {
		words := "a 0 b 1 c 2 d 3 e 4 f 5 g 6"[:max(4*n-1, 0)]
		for order := range orders(n) {
			m := New[int]()
			for _, i := range order {
				m.Set(string(rune('a'+i)), 9)
				m.Set(string(rune('a'+i)), i)
			}
			if text(row(m)) != words || m.Len() != n || !sound(m.root) {
				t.Fatalf("%v: %q", order, text(row(m)))
			}
			whole := m.Twin()
			for i := range n {
				for _, away := range order {
					m.Delete(string(rune('a' + (away+i)%n)))
					if !sound(m.root) {
						t.Fatalf("%v from %d on: not sound", order, i)
					}
				}
				if m.Len() != 0 {
					t.Fatalf("%v from %d on: %d are left", order, i, m.Len())
				}
				m = whole.Twin()
			}
		}
	}
}

// slowMem is a table as the chapter words it: keys, each once, in no order.
type slowMem []pair[int]

// below says whether a key is less: the first byte in which they differ decides, and what is a beginning of the other one is less.
func below(a, b string) bool {
	for i := range min(len(a), len(b)) {
		if a[i] != b[i] {
			return a[i] < b[i]
		}
	}
	return len(a) < len(b)
}

func (s slowMem) find(key string) int {
	for i, p := range s {
		if p.key == key {
			return i
		}
	}
	return -1
}

func (s *slowMem) set(key string, v int) bool {
	if i := s.find(key); i >= 0 {
		(*s)[i].v = v
		return false
	}
	*s = append(*s, pair[int]{key, v})
	return true
}

func (s *slowMem) delete(key string) bool {
	i := s.find(key)
	if i >= 0 {
		*s = slices.Delete(*s, i, i+1)
	}
	return i >= 0
}

func (s slowMem) get(key string) (int, bool) {
	if i := s.find(key); i >= 0 {
		return s[i].v, true
	}
	return 0, false
}

func (s slowMem) floor(key string) (string, int, bool) {
	best := pair[int]{}
	there := false
	for _, p := range s {
		if !below(key, p.key) && (!there || below(best.key, p.key)) {
			best, there = p, true
		}
	}
	return best.key, best.v, there
}

func (s slowMem) from(key string) []pair[int] {
	var l []pair[int]
	for _, p := range s {
		if !below(p.key, key) {
			l = append(l, p)
		}
	}
	slices.SortFunc(l, func(x, y pair[int]) int {
		if below(x.key, y.key) {
			return -1
		}
		return 1
	})
	return l
}

// held is something that must tell the same for good.
type held struct {
	what   string
	tell   func() []pair[int]
	wanted []pair[int]
}

// walker goes with a table and the chapter's one through the same calls.
type walker struct {
	r      *rand.Rand
	x      *Mem[int]
	slow   slowMem
	letter []byte // what keys are made of
	long   int    // how long they may be
	held   []held
}

func (w *walker) key() string {
	key := make([]byte, w.r.IntN(w.long+1))
	for i := range key {
		key[i] = w.letter[w.r.IntN(len(w.letter))]
	}
	return string(key)
}

// step makes one call of both; what it was, and whether both answer the same.
func (w *walker) step() (string, bool) {
	key, v := w.key(), w.r.IntN(1000)
	switch w.r.IntN(20) {
	case 0, 1, 2, 3, 4, 5, 6:
		return "Set", w.x.Set(key, v) == w.slow.set(key, v)
	case 7, 8, 9, 10:
		return "Delete", w.x.Delete(key) == w.slow.delete(key)
	case 11, 12:
		got, ok := w.x.Get(key)
		wanted, there := w.slow.get(key)
		return "Get", got == wanted && ok == there
	case 13, 14:
		k, got, ok := w.x.Floor(key)
		best, wanted, there := w.slow.floor(key)
		return "Floor", k == best && got == wanted && ok == there && (!ok || w.nothingBetween(k, key))
	case 15, 16:
		seq := w.x.From(key)
		h := held{"From", func() []pair[int] { return collect(seq) }, w.slow.from(key)}
		w.held = append(w.held, h)
		return "From", slices.Equal(h.tell(), h.wanted)
	case 17:
		x := w.x.Twin()
		w.held = append(w.held, held{"Twin", func() []pair[int] { return row(x) }, w.slow.from("")})
		return "Twin", true
	case 18:
		return "Other", w.other(v%4 + 1)
	}
	if w.r.IntN(30) == 0 {
		w.x.Clear()
		w.slow = nil
		return "Clear", true
	}
	// The twin goes on from here, the table itself stays.
	x := w.x
	w.x = x.Twin()
	w.held = append(w.held, held{"the table that was twinned", func() []pair[int] { return row(x) }, w.slow.from("")})
	return "Twin", true
}

// nothingBetween says whether no key is above one and not above another.
func (w *walker) nothingBetween(low, high string) bool {
	for key := range w.x.From(low) {
		if key != low && !below(high, key) {
			return false
		}
	}
	return true
}

// other makes another table of the keys whose values are multiples of a number.
func (w *walker) other(modulus int) bool {
	o := Other(w.x, func(key string, v int) (int, bool) { return v + len(key), v%modulus == 0 })
	var wanted []pair[int]
	for _, p := range w.slow.from("") {
		if p.v%modulus == 0 {
			wanted = append(wanted, pair[int]{p.key, p.v + len(p.key)})
		}
	}
	w.held = append(w.held, held{"Other", func() []pair[int] { return row(o) }, wanted})
	return slices.Equal(row(o), wanted) && o.Len() == len(wanted)
}

func TestAsTheChapterWordsIt(t *testing.T) {
	letters := []string{"a", "ab", "\x00a\xff", "a\x7f\x80\xff", "0123456789"}
	for seed := range 100 {
		w := &walker{r: rand.New(rand.NewPCG(5, uint64(seed))), x: New[int](), letter: []byte(letters[seed%len(letters)]), long: 1 + seed%7}
		for i := range 500 {
			what, ok := w.step()
			l := row(w.x)
			if !ok || w.x.Len() != len(w.slow) || !slices.Equal(l, w.slow.from("")) || !sound(w.x.root) {
				t.Fatalf("seed %d, step %d: %s: not as the chapter words it", seed, i, what)
			}
			if !slices.IsSortedFunc(l, func(x, y pair[int]) int { return bytes.Compare([]byte(x.key), []byte(y.key)) }) {
				t.Fatalf("seed %d, step %d: %s: not sorted", seed, i, what)
			}
		}
		for i, h := range w.held {
			if !slices.Equal(h.tell(), h.wanted) {
				t.Fatalf("seed %d: number %d, %s: tells something else than at first", seed, i, h.what)
			}
		}
	}
}

// depth is how many nodes lie on the longest way down.
func depth[V any](n *node[V]) int {
	if n == nil {
		return 0
	}
	return 1 + max(depth(n.left), depth(n.right))
}

// ways are orders in which keys may come, and go.
func ways(n int) map[string]func(i int) int {
	random := rand.New(rand.NewPCG(7, 7)).Perm(n)
	return map[string]func(i int) int{
		"rising":    func(i int) int { return i },
		"falling":   func(i int) int { return n - 1 - i },
		"inwards":   func(i int) int { return []int{i / 2, n - 1 - i/2}[i%2] },
		"outwards":  func(i int) int { return []int{n/2 + i/2, n/2 - 1 - i/2}[i%2] },
		"at random": func(i int) int { return random[i] },
	}
}

// Whatever the order in which keys come and go, a table of many is no slower for it.
func TestManyKeys(t *testing.T) {
	const n = 1 << 13
	key := func(i int) string { return strconv.Itoa(1<<20 + i) }
	for in, come := range ways(n) {
		whole := New[int]()
		for i := range n {
			whole.Set(key(come(i)), come(i))
		}
		if whole.Len() != n || !sound(whole.root) || depth(whole.root) > 32 {
			t.Fatalf("%s: Len %d, depth %d", in, whole.Len(), depth(whole.root))
		}
		for out, leave := range ways(n) {
			m := whole.Twin()
			for i := range n {
				if !m.Delete(key(leave(i))) {
					t.Fatalf("%s, %s: %d isn't there", in, out, leave(i))
				}
				if i%512 == 0 && !sound(m.root) {
					t.Fatalf("%s, %s: not sound behind %d", in, out, i)
				}
			}
			has(t, m, "")
		}
		for i, p := range row(whole) {
			if p != (pair[int]{key(i), i}) {
				t.Fatalf("%s: number %d: %v", in, i, p)
			}
		}
	}
}

// Tables and what From gave cost little, however many keys there are: they'd make copies for days else.
func TestManyTwins(t *testing.T) {
	m := New[int]()
	for i := range 1 << 17 {
		m.Set(strconv.Itoa(i), i)
	}
	var x *Mem[int]
	for i := range 1 << 17 {
		x = m.Twin()
		seq := m.From("5")
		m.Set(strconv.Itoa(i), -i)
		for key, v := range seq {
			if key != "5" || v != 5 && (i <= 5 || v != -5) {
				t.Fatal(key, v)
			}
			break
		}
	}
	gets(t, m, "131071", -131071)
	gets(t, x, "131071", 131071)
}

// Rules R1, R3 and R4

// A function that panics, or is none, answers true of no key; the others are asked all the same.
func TestOtherNeverPanics(t *testing.T) {
	m := of(t, "a 1 b 2 c 3 d 4")
	o := Other[int, int](m, nil)
	if o == nil || o.Len() != 0 {
		t.Error("of a nil function:", row(o))
	}
	asked := ""
	o = Other(m, func(key string, v int) (int, bool) {
		asked += key
		if key == "b" {
			panic("b")
		}
		if key == "c" {
			var none []int
			return none[v], true
		}
		return v, true
	})
	if asked != "abcd" {
		t.Error("asked:", asked)
	}
	has(t, o, "a 1 d 4")
	has(t, m, "a 1 b 2 c 3 d 4")
}

// Whoever goes over a table may panic: nothing of it is held back, and the table is as it was.
func TestPanicWhileGoneOver(t *testing.T) {
	m := of(t, "a 1 b 2 c 3")
	seq := m.From("")
	func() {
		defer func() {
			if recover() != "b" {
				t.Error("another panic, or none")
			}
		}()
		for key := range seq {
			if key == "b" {
				panic(key)
			}
		}
	}()
	tells(t, "gone over again", seq, "a 1 b 2 c 3")
	has(t, m, "a 1 b 2 c 3")
}

// within says whether a text's bytes lie in another's memory.
func within(s, memory string) bool {
	p, begin := uintptr(unsafe.Pointer(unsafe.StringData(s))), uintptr(unsafe.Pointer(unsafe.StringData(memory)))
	return p >= begin && p < begin+uintptr(len(memory))
}

func TestKeysAreNewMemory(t *testing.T) {
	memory := strings.Clone("memory of one two and three")
	m := New[int]()
	m.Set(memory[10:13], 1)
	m.Set(memory[14:17], 2)
	m.Set(memory[14:17], 3)
	all := []string{memory}
	for _, n := range []*node[int]{m.root, m.root.left, m.root.right} {
		if n != nil {
			all = append(all, n.key)
		}
	}
	for range 2 {
		for key := range m.From(memory[10:13]) {
			all = append(all, key)
		}
		key, _, _ := m.Floor(memory[22:27])
		all = append(all, key)
	}
	Other(m, func(key string, v int) (int, bool) {
		all = append(all, key)
		return v, true
	})
	if len(all) != 1+2+2*3+2 {
		t.Fatalf("%q", all)
	}
	for i, s := range all {
		for j, other := range all {
			if i != j && within(s, other) {
				t.Errorf("number %d, %q, lies in the memory of number %d, %q", i, s, j, other)
			}
		}
	}
}

// Of a long text a table keeps no more than the key that was cut from it; nor does what From gave.
func TestLongTextsAreNotKept(t *testing.T) {
	m := New[int]()
	var seq iter.Seq2[string, int]
	lend := func() weak.Pointer[byte] {
		long := strings.Repeat("k", 1<<16)
		m.Set(long[:2], 1)
		m.Get(long[:3])
		m.Floor(long[:3])
		m.Delete(long[:4])
		seq = m.From(long[:1])
		return weak.Make(unsafe.StringData(long))
	}
	p := lend()
	runtime.GC()
	if p.Value() != nil {
		t.Error("a long text is kept")
	}
	tells(t, "From", seq, "kk 1")
	has(t, m, "kk 1")
}

// A value is the one that was set: a slice of it is not another one, for nobody knows how to make another of whatever there is.
func TestValuesAreThoseThatWereSet(t *testing.T) {
	l := []int{1, 2}
	m := New[[]int]()
	m.Set("a", l)
	got, _ := m.Get("a")
	_, floor, _ := m.Floor("b")
	twin, _ := m.Twin().Get("a")
	for i, x := range [][]int{got, floor, twin, row(m)[0].v} {
		if &x[0] != &l[0] || len(x) != 2 {
			t.Errorf("number %d is another one", i)
		}
	}
}

// What was deleted, cleared, or set anew is not kept.
func TestWhatIsGoneIsNotKept(t *testing.T) {
	for name, away := range map[string]func(m *Mem[*[64]int], key string){
		"Delete": func(m *Mem[*[64]int], key string) { m.Delete(key) },
		"Set":    func(m *Mem[*[64]int], key string) { m.Set(key, nil) },
		"Clear":  func(m *Mem[*[64]int], key string) { m.Clear() },
	} {
		m := New[*[64]int]()
		var gone []weak.Pointer[[64]int]
		for i := range 100 {
			v := new([64]int)
			gone = append(gone, weak.Make(v))
			m.Set(strconv.Itoa(i), v)
			m.Twin().Set("x", v)
		}
		for i := range 100 {
			away(m, strconv.Itoa(i))
		}
		runtime.GC()
		for i, p := range gone {
			if p.Value() != nil {
				t.Errorf("%s: number %d is kept", name, i)
				break
			}
		}
		runtime.KeepAlive(m)
	}
}

func TestTablesKnowNothingOfOneAnother(t *testing.T) {
	m, other := of(t, "a 1 b 2"), of(t, "a 1 b 2")
	for _, c := range changes() {
		c.do(m)
		has(t, other, "a 1 b 2")
	}
	has(t, New[int](), "")
}

// What is done to one twin while others go over theirs, at the same time, is none of their business.
func TestTwinsAtTheSameTime(t *testing.T) {
	m := New[int]()
	for i := range 500 {
		m.Set(strconv.Itoa(i), i)
	}
	wanted := row(m)
	done := make(chan bool)
	for worker := range 8 {
		x, seq := m.Twin(), m.From("")
		go func() {
			ok := true
			for i := range 200 {
				x.Delete(strconv.Itoa(i + worker))
				x.Set(strconv.Itoa(-i), worker)
				ok = ok && (i%20 > 0 || slices.Equal(collect(seq), wanted))
			}
			done <- ok
		}()
	}
	for range 8 {
		says(t, "what From gave tells the same", <-done, true)
	}
	if !slices.Equal(row(m), wanted) {
		t.Error("the table has changed")
	}
}
