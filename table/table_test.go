package table

import (
	"fmt"
	"hash/crc32"
	"math/rand/v2"
	"slices"
	"strings"
	"testing"
	"unsafe"

	"redress/api"
)

// rowsOf is entries of words: a key with a value behind it, or with - where it is gone.
func rowsOf(words string) []Entry {
	var l []Entry
	fields := strings.Fields(words)
	for i := 0; i < len(fields); i += 2 {
		if fields[i+1] == "-" {
			l = append(l, Entry{Key: fields[i], Gone: true})
		} else {
			l = append(l, Entry{Key: fields[i], Value: fields[i+1]})
		}
	}
	return l
}

// numbered is n entries whose keys are all as long, each third one gone, the others with values of some length.
func numbered(n, value int) []Entry {
	l := make([]Entry, n)
	for i := range l {
		l[i].Key = fmt.Sprintf("k%05d", i)
		if l[i].Gone = i%3 == 2; !l[i].Gone {
			l[i].Value = strings.Repeat(string(rune('a'+i%26)), value)
		}
	}
	return l
}

// filled is a list of just so many bytes, keys and values together.
func filled(t *testing.T, bytes int) []Entry {
	t.Helper()
	var l []Entry
	for left := bytes; left > 0; {
		e := Entry{Key: fmt.Sprintf("k%03d", len(l))}
		e.Value = strings.Repeat("v", min(left-len(e.Key), api.MaxCell))
		l = append(l, e)
		left -= len(e.Key) + len(e.Value)
		if left > 0 && left < 5 {
			l[len(l)-1].Value = e.Value[5:]
			left += 5
		}
	}
	if n := bytesOf(l); n != bytes {
		t.Fatalf("%d bytes, not %d", n, bytes)
	}
	return l
}

// bytesOf is how many bytes the keys and values of a list have.
func bytesOf(l []Entry) int {
	n := 0
	for _, e := range l {
		n += len(e.Key) + len(e.Value)
	}
	return n
}

// keyOf is a key of n bytes.
func keyOf(n int) string { return strings.Repeat("k", n) }

// one is a list of one entry.
func one(key, value string, gone bool) []Entry { return []Entry{{key, value, gone}} }

// built is the table of a list, and that there is one.
func built(t *testing.T, l []Entry) string {
	t.Helper()
	s, e := Build(l)
	if e != api.OK {
		t.Fatalf("Build of %d entries: error %d", len(l), e)
	}
	return s
}

// opened is what Open makes of a text, and that it does.
func opened(t *testing.T, s string) *Table {
	t.Helper()
	tab, e := Open(s)
	if e != api.OK || tab == nil {
		t.Fatalf("Open of %d bytes: %v, error %d", len(s), tab != nil, e)
	}
	return tab
}

// of is the table of a list, opened.
func of(t *testing.T, l []Entry) *Table {
	t.Helper()
	return opened(t, built(t, l))
}

// refuses says where Build answers another error, or a text beside one.
func refuses(t *testing.T, what string, l []Entry, wanted api.Errno) {
	t.Helper()
	if s, e := Build(l); e != wanted || s != "" {
		t.Errorf("%s: error %d and %d bytes, not error %d", what, e, len(s), wanted)
	}
}

// isNone says where a text is taken for a table.
func isNone(t *testing.T, what, s string) {
	t.Helper()
	if tab, e := Open(s); e != api.ErrBad || tab != nil {
		t.Errorf("%s: error %d, table %v", what, e, tab != nil)
	}
}

// same says where two lists are not the same.
func same(t *testing.T, what string, got, wanted []Entry) {
	t.Helper()
	if slices.Equal(got, wanted) {
		return
	}
	if len(got)+len(wanted) < 20 {
		t.Errorf("%s: %v, not %v", what, got, wanted)
		return
	}
	t.Errorf("%s: %d entries, not these %d", what, len(got), len(wanted))
}

// gets says where Get tells something else.
func gets(t *testing.T, tab *Table, key string, wanted Entry, there bool) {
	t.Helper()
	if e, ok := tab.Get(key); e != wanted || ok != there {
		t.Errorf("Get(%q): %v, %v; not %v, %v", key, e, ok, wanted, there)
	}
}

// ends says where Ends tells something else.
func ends(t *testing.T, tab *Table, first, last string) {
	t.Helper()
	if f, l := tab.Ends(); f != first || l != last {
		t.Errorf("Ends: %q, %q; not %q, %q", f, l, first, last)
	}
}

// slowRight is whether a list is right, as the chapter words it.
func slowRight(l []Entry) bool {
	if len(l) > 4096 || bytesOf(l) > 524288 {
		return false
	}
	for i, e := range l {
		if len(e.Key) < 1 || len(e.Key) > 128 || len(e.Value) > 16384 || e.Gone && len(e.Value) > 0 {
			return false
		}
		for _, other := range l[:i] {
			if other.Key >= e.Key {
				return false
			}
		}
	}
	return true
}

// slowError is the error that is due of a list, as the chapter words it.
func slowError(l []Entry) api.Errno {
	tooLong := func(e Entry) bool { return len(e.Key) > 128 || len(e.Value) > 16384 }
	switch {
	case len(l) > 4096, bytesOf(l) > 524288, slices.ContainsFunc(l, tooLong):
		return api.ErrLong
	case !slowRight(l):
		return api.ErrArg
	}
	return api.OK
}

// slowFrom is the entries of a list from a key on.
func slowFrom(l []Entry, key string) []Entry {
	var from []Entry
	for _, e := range l {
		if e.Key >= key {
			from = append(from, e)
		}
	}
	return from
}

// slowGet is the entry of a key in a list.
func slowGet(l []Entry, key string) (Entry, bool) {
	for _, e := range l {
		if e.Key == key {
			return e, true
		}
	}
	return Entry{}, false
}

// tellsAll says where a table tells something else than a list, of its own keys, of those beside them and of some others.
func tellsAll(t *testing.T, tab *Table, l []Entry, others ...string) {
	t.Helper()
	same(t, "all", slices.Collect(tab.From("")), l)
	if tab.Len() != len(l) {
		t.Errorf("Len: %d, not %d", tab.Len(), len(l))
	}
	if len(l) == 0 {
		ends(t, tab, "", "")
	} else {
		ends(t, tab, l[0].Key, l[len(l)-1].Key)
	}
	keys := append([]string{"", "\x00", "\xff", strings.Repeat("\xff", 200)}, others...)
	for i := range l {
		// All that lies beside a key, of some of them where there are many.
		if k := l[i].Key; len(l) < 200 || i%97 == 0 || i%16 < 2 && i < 100 {
			keys = append(keys, k, k+"\x00", k[:len(k)-1], k[:len(k)-1]+string([]byte{k[len(k)-1] - 1}), k+"\xff")
		}
	}
	for _, key := range keys {
		e, ok := slowGet(l, key)
		gets(t, tab, key, e, ok)
		same(t, fmt.Sprintf("From(%q)", key), slices.Collect(tab.From(key)), slowFrom(l, key))
	}
}

// chance is a list that is right, of some entries whose keys are made of few bytes, so that many begin others.
func chance(r *rand.Rand, most int) []Entry {
	have := map[string]Entry{}
	for range r.IntN(most + 1) {
		key := make([]byte, 1+r.IntN(1+r.IntN(12)))
		for i := range key {
			key[i] = []byte{0, 'a', 'b', 127, 128, 255}[r.IntN(6)]
		}
		e := Entry{Key: string(key), Gone: r.IntN(4) == 0}
		if !e.Gone {
			e.Value = strings.Repeat(string([]byte{byte(r.IntN(256))}), r.IntN(1+r.IntN(40)))
		}
		have[e.Key] = e
	}
	var l []Entry
	for _, e := range have {
		l = append(l, e)
	}
	slices.SortFunc(l, func(a, b Entry) int { return strings.Compare(a.Key, b.Key) })
	return l
}

// sealed is a text with its sum behind it, as that of a table.
func sealed(body string) string {
	c := crc32.Checksum([]byte(body), crc32.MakeTable(crc32.Castagnoli))
	return body + string([]byte{byte(c), byte(c >> 8), byte(c >> 16), byte(c >> 24)})
}

// bare is a table without its sum.
func bare(s string) string { return s[:len(s)-4] }

// kinds are lists that are right, of all kinds that matter.
func kinds(t *testing.T) map[string][]Entry {
	return map[string][]Entry{
		"none":           nil,
		"L":              rowsOf("a 1 b - c 3"),
		"one":            rowsOf("a 1"),
		"one gone":       rowsOf("a -"),
		"one without":    one("a", "", false),
		"a block":        numbered(16, 3),
		"and one more":   numbered(17, 3),
		"less one":       numbered(15, 3),
		"two blocks":     numbered(32, 0),
		"some":           numbered(100, 7),
		"most":           numbered(Most, 5),
		"most without":   numbered(Most, 0),
		"bytes":          filled(t, Bytes),
		"shortest key":   one("\x00", "v", false),
		"longest key":    one(keyOf(128), "v", false),
		"longest value":  one("k", strings.Repeat("v", 16384), false),
		"longest both":   one(keyOf(128), strings.Repeat("\xff", 16384), false),
		"gone, long key": one(keyOf(128), "", true),
		"beginnings":     rowsOf("a 1 aa 2 aaa - aaaa 4 ab 5"),
		"high bytes":     {{"\x7f", "1", false}, {"\x80", "\x80", false}, {"\xc3\xa4", "", true}, {"\xff", "", false}, {"\xff\x00", "\x00", false}, {"\xff\xff", "", true}},
	}
}

// P6.1

func TestBuildExamples(t *testing.T) {
	refuses(t, "b a", rowsOf("b 2 a 1"), api.ErrArg)
	refuses(t, "a a", rowsOf("a 1 a 1"), api.ErrArg)
	refuses(t, "a key of 0 bytes", one("", "v", false), api.ErrArg)
	refuses(t, "a key of 129 bytes", one(keyOf(129), "v", false), api.ErrLong)
	refuses(t, "b gone with a value", []Entry{{"a", "1", false}, {"b", "2", true}}, api.ErrArg)
}

func TestBuildEdges(t *testing.T) {
	built(t, numbered(Most, 1))
	refuses(t, "one more than Most", numbered(Most+1, 1), api.ErrLong)
	built(t, filled(t, Bytes))
	refuses(t, "one more than Bytes", filled(t, Bytes+1), api.ErrLong)
	built(t, one(keyOf(1), "", false))
	built(t, one(keyOf(128), "", true))
	refuses(t, "a key that is gone, of 129 bytes", one(keyOf(129), "", true), api.ErrLong)
	built(t, one("k", strings.Repeat("v", 16384), false))
	refuses(t, "a value of 16385 bytes", one("k", strings.Repeat("v", 16385), false), api.ErrLong)
	refuses(t, "a gone key of 0 bytes", one("", "", true), api.ErrArg)
	refuses(t, "keys above 127 that fall", []Entry{{"\x80", "", false}, {"\x7f", "", false}}, api.ErrArg)
	refuses(t, "ahead of its beginning", rowsOf("ab 1 a 2"), api.ErrArg)
	refuses(t, "a fall late", append(numbered(40, 1), Entry{Key: "k00038"}), api.ErrArg)
	refuses(t, "twice, once gone", []Entry{{"a", "", true}, {"a", "1", false}}, api.ErrArg)
	refuses(t, "no key behind others", append(rowsOf("a 1"), Entry{}), api.ErrArg)
}

// Keys and values count both, and together.
func TestBuildCountsBytes(t *testing.T) {
	long := make([]Entry, Most)
	for i := range long {
		long[i].Key = fmt.Sprintf("%04d", i) + keyOf(124)
	}
	if bytesOf(long) != Bytes {
		t.Fatal(bytesOf(long))
	}
	tellsAll(t, of(t, long), long)
	long[7].Value = "v"
	refuses(t, "one byte more", long, api.ErrLong)
}

func TestBuildWhichErrorComesFirst(t *testing.T) {
	falling := numbered(Most+1, 0)
	slices.Reverse(falling)
	refuses(t, "too many that fall", falling, api.ErrLong)
	refuses(t, "too many without keys", make([]Entry, Most+1), api.ErrLong)
	big := filled(t, Bytes+1)
	big[3], big[4] = big[4], big[3]
	refuses(t, "too many bytes that fall", big, api.ErrLong)
	refuses(t, "no key, then one too long", []Entry{{}, {Key: keyOf(129)}}, api.ErrLong)
	refuses(t, "a fall, then a value too long", []Entry{{Key: "b"}, {Key: "a", Value: strings.Repeat("v", 16385)}}, api.ErrLong)
	refuses(t, "gone with a value too long", one("a", strings.Repeat("v", 16385), true), api.ErrLong)
	refuses(t, "no key, a value too long", one("", strings.Repeat("v", 16385), false), api.ErrLong)
	gone := filled(t, Bytes+1)
	gone[0].Gone = true
	refuses(t, "gone with a value, too many bytes", gone, api.ErrLong)
	gone[0].Value = gone[0].Value[1:]
	refuses(t, "gone with a value, not too many bytes", gone, api.ErrArg)
}

func TestBuildByTheWords(t *testing.T) {
	r := rand.New(rand.NewPCG(6, 1))
	for range 3000 {
		l := chance(r, 8)
		for range r.IntN(3) {
			l = slices.Insert(l, r.IntN(len(l)+1), Entry{
				[]string{"", "a", "\xff", keyOf(128), keyOf(129)}[r.IntN(5)],
				[]string{"", "", "v", strings.Repeat("v", 16384), strings.Repeat("v", 16385)}[r.IntN(5)],
				r.IntN(2) == 0,
			})
		}
		s, e := Build(l)
		if e != slowError(l) || (e == api.OK) != (s != "") {
			t.Fatalf("%v: error %d, not %d", l, e, slowError(l))
		}
		if e == api.OK {
			same(t, "the table", slices.Collect(opened(t, s).From("")), l)
		}
	}
}

func TestSameTextForSameList(t *testing.T) {
	for what, l := range kinds(t) {
		again := make([]Entry, 0, len(l)+5)
		for _, e := range l {
			again = append(again, Entry{strings.Clone(e.Key), strings.Clone(e.Value), e.Gone})
		}
		if built(t, l) != built(t, again) {
			t.Errorf("%s: two texts", what)
		}
	}
	if built(t, nil) != built(t, []Entry{}) {
		t.Error("two texts of no entries")
	}
}

func TestOtherTextForOtherList(t *testing.T) {
	seen := map[string]string{}
	for what, l := range kinds(t) {
		s := built(t, l)
		if other, there := seen[s]; there {
			t.Errorf("%s and %s have the same text", what, other)
		}
		seen[s] = what
	}
}

func TestBuildLeavesTheList(t *testing.T) {
	whole := append(numbered(40, 3), Entry{"z", "spare", true})
	before := slices.Clone(whole)
	built(t, whole[:40])
	same(t, "the list and what is behind it", whole, before)
}

// How long a text may be: shorter than 64 bytes and, for each entry, its key's twice, its value's and 24.
func TestTextIsShort(t *testing.T) {
	for what, l := range kinds(t) {
		bound := 64
		for _, e := range l {
			bound += 2*len(e.Key) + len(e.Value) + 24
		}
		if n := len(built(t, l)); n >= bound {
			t.Errorf("%s: %d bytes, not below %d", what, n, bound)
		}
	}
}

func TestOpenExamples(t *testing.T) {
	s := built(t, rowsOf("a 1 b - c 3"))
	isNone(t, "nothing", "")
	isNone(t, "L with x behind", s+"x")
	isNone(t, "L without its last byte", s[:len(s)-1])
	tab := opened(t, built(t, nil))
	if tab.Len() != 0 || built(t, nil) == "" {
		t.Error("no entries")
	}
	ends(t, tab, "", "")
}

// A text in which one byte is another one is no table, whichever byte, and whatever it becomes.
func TestOneByteIsAnother(t *testing.T) {
	for _, l := range [][]Entry{nil, rowsOf("a 1"), rowsOf("a 1 b - c 3"), rowsOf("a - aa - ab 1234")} {
		s := []byte(built(t, l))
		for i, was := range s {
			for x := range 256 {
				if s[i] = byte(x); s[i] != was {
					isNone(t, fmt.Sprintf("%d entries, byte %d is %d", len(l), i, x), string(s))
				}
			}
			s[i] = was
		}
	}
}

func TestOneByteIsAnotherInManyEntries(t *testing.T) {
	r := rand.New(rand.NewPCG(6, 2))
	for what, l := range map[string][]Entry{"hundred": numbered(100, 9), "high": kinds(t)["high bytes"], "long": one(keyOf(128), keyOf(300), false)} {
		s := []byte(built(t, l))
		for i, was := range s {
			for _, x := range []byte{1, 128, byte(1 + r.IntN(255))} {
				s[i] = was ^ x
				isNone(t, fmt.Sprintf("%s: byte %d of %d", what, i, len(s)), string(s))
			}
			s[i] = was
		}
	}
}

func TestOneByteIsAnotherInLongTexts(t *testing.T) {
	r := rand.New(rand.NewPCG(6, 3))
	for _, what := range []string{"most", "bytes"} {
		s := []byte(built(t, kinds(t)[what]))
		places := []int{0, 1, 2, 3, len(s) - 5, len(s) - 4, len(s) - 1}
		for range 60 {
			places = append(places, r.IntN(len(s)))
		}
		for _, i := range places {
			s[i] ^= byte(1 + r.IntN(255))
			isNone(t, fmt.Sprintf("%s: byte %d of %d", what, i, len(s)), string(s))
			s = []byte(built(t, kinds(t)[what]))
		}
	}
}

func TestEndIsCut(t *testing.T) {
	for _, what := range []string{"none", "L", "one", "a block", "and one more", "some", "high bytes", "beginnings"} {
		s := built(t, kinds(t)[what])
		for n := range len(s) {
			isNone(t, fmt.Sprintf("%s: %d bytes of %d", what, n, len(s)), s[:n])
			isNone(t, fmt.Sprintf("%s: %d bytes of %d from the end", what, n, len(s)), s[len(s)-n:])
		}
	}
}

// A cut, or bytes behind, cannot be made good by a sum that is right.
func TestEndIsCutAndSealed(t *testing.T) {
	for _, what := range []string{"none", "L", "a block", "and one more", "some"} {
		body := bare(built(t, kinds(t)[what]))
		for n := range len(body) {
			isNone(t, fmt.Sprintf("%s: %d bytes of %d", what, n, len(body)), sealed(body[:n]))
		}
		for x := range 256 {
			isNone(t, fmt.Sprintf("%s with %d behind", what, x), sealed(body+string([]byte{byte(x)})))
		}
	}
}

func TestMoreBehind(t *testing.T) {
	for what, l := range kinds(t) {
		s := built(t, l)
		for _, more := range []string{"x", "\x00", "\xff", "\x00\x00\x00\x00", s, "\x00" + s, strings.Repeat("\x00", 1000)} {
			isNone(t, what+" with more behind", s+more)
			isNone(t, what+" with more ahead", more+"."+s)
		}
	}
	s := built(t, rowsOf("a 1 b - c 3"))
	for x := range 1 << 16 {
		isNone(t, "two bytes behind", s+string([]byte{byte(x), byte(x >> 8)}))
	}
}

func TestNoTables(t *testing.T) {
	for n := range 300 {
		isNone(t, fmt.Sprintf("%d noughts", n), strings.Repeat("\x00", n))
		isNone(t, fmt.Sprintf("%d bytes 255", n), strings.Repeat("\xff", n))
	}
	isNone(t, "very many noughts", strings.Repeat("\x00", 1<<22))
	isNone(t, "very many ones", strings.Repeat("\x01", 1<<22))
	isNone(t, "very many bytes 255", strings.Repeat("\xff", 1<<22))
	r := rand.New(rand.NewPCG(6, 4))
	for range 20000 {
		s := make([]byte, r.IntN(1+r.IntN(200)))
		for i := range s {
			s[i] = byte(r.Uint32())
			if r.IntN(3) == 0 {
				s[i] = byte(r.IntN(4))
			}
		}
		isNone(t, fmt.Sprintf("%q", s), string(s))
	}
}

// P6.2

func TestExampleL(t *testing.T) {
	tab := of(t, rowsOf("a 1 b - c 3"))
	gets(t, tab, "a", Entry{"a", "1", false}, true)
	gets(t, tab, "b", Entry{"b", "", true}, true)
	gets(t, tab, "bb", Entry{}, false)
	same(t, "From(b)", slices.Collect(tab.From("b")), rowsOf("b - c 3"))
	if tab.Len() != 3 {
		t.Error(tab.Len())
	}
	ends(t, tab, "a", "c")
}

func TestAllKinds(t *testing.T) {
	for what, l := range kinds(t) {
		t.Run(what, func(t *testing.T) { tellsAll(t, of(t, l), l, "a", "aab", "k00050", "m") })
	}
}

func TestByTheWords(t *testing.T) {
	r := rand.New(rand.NewPCG(6, 5))
	for range 400 {
		l := chance(r, 1+r.IntN(150))
		tellsAll(t, of(t, l), l)
	}
}

// Each key of very many is found, and none between them.
func TestGetOfVeryMany(t *testing.T) {
	l := numbered(Most, 2)
	tab := of(t, l)
	for i, e := range l {
		gets(t, tab, e.Key, e, true)
		gets(t, tab, e.Key+"\x00", Entry{}, false)
		for behind := range tab.From(e.Key + "\x00") {
			if behind != l[i+1] {
				t.Fatalf("behind %q: %v", e.Key, behind)
			}
			break
		}
	}
}

func TestFromLeftAndGoneOverAgain(t *testing.T) {
	l := numbered(50, 4)
	tab := of(t, l)
	for _, from := range []int{0, 1, 15, 16, 17, 40, 49} {
		seq := tab.From(l[from].Key)
		for leave := range len(l) - from {
			var got []Entry
			for e := range seq {
				if got = append(got, e); len(got) > leave {
					break
				}
			}
			same(t, "left early", got, l[from:from+leave+1])
		}
		same(t, "gone over again", slices.Collect(seq), l[from:])
		same(t, "once more", slices.Collect(seq), l[from:])
	}
}

func TestFromWithinItself(t *testing.T) {
	l := numbered(20, 1)
	seq := of(t, l).From("")
	var outer []Entry
	for e := range seq {
		outer = append(outer, e)
		same(t, "within", slices.Collect(seq), l)
	}
	same(t, "around", outer, l)
}

// Tables know nothing of one another, nor of what became of the list or the text they were made of.
func TestTablesStandAlone(t *testing.T) {
	l := numbered(40, 3)
	wanted := slices.Clone(l)
	raw := []byte(built(t, l))
	tab := opened(t, unsafe.String(&raw[0], len(raw)))
	other := of(t, rowsOf("x 1"))
	clear(raw)
	clear(l)
	tellsAll(t, tab, wanted)
	tellsAll(t, other, rowsOf("x 1"))
}

// A key that is asked for is not what is answered, nor kept in what From gave.
func TestKeysAreNotKept(t *testing.T) {
	tab := of(t, rowsOf("a 1 b 2 c 3"))
	raw := []byte("b")
	key := unsafe.String(&raw[0], 1)
	e, _ := tab.Get(key)
	seq := tab.From(key)
	raw[0] = 'z'
	if e.Key != "b" {
		t.Errorf("Get: %q", e.Key)
	}
	same(t, "From(b)", slices.Collect(seq), rowsOf("b 2 c 3"))
}

// What is told is cut from the table's text: nothing is copied, however long it is.
func TestToldIsCutFromTheText(t *testing.T) {
	l := filled(t, Bytes)
	tab := of(t, l)
	low := uintptr(unsafe.Pointer(unsafe.StringData(tab.rows)))
	high := low + uintptr(len(tab.rows))
	within := func(s string) bool {
		at := uintptr(unsafe.Pointer(unsafe.StringData(s)))
		return s == "" || at >= low && at+uintptr(len(s)) <= high
	}
	for e := range tab.From("") {
		if !within(e.Key) || !within(e.Value) {
			t.Fatalf("%q is a copy", e.Key)
		}
	}
	if n := testing.AllocsPerRun(100, func() { tab.Get(l[20].Key) }); n != 0 {
		t.Errorf("Get takes memory %v times", n)
	}
}

// Entries stand in blocks, to which the index of their first keys leads.
func TestIndexLeadsToBlocks(t *testing.T) {
	for what, l := range kinds(t) {
		tab := of(t, l)
		if blocks := (len(l) + group - 1) / group; len(tab.index) != blocks {
			t.Errorf("%s: %d blocks, not %d", what, len(tab.index), blocks)
		}
		for i, b := range tab.index {
			e, _, ok := tab.at(b.place)
			if !ok || e != l[i*group] || b.first != e.Key {
				t.Errorf("%s: block %d, of %q, leads to %q", what, i, b.first, e.Key)
			}
		}
	}
}

// P6.3

func TestNoTable(t *testing.T) {
	var none *Table
	for _, tab := range []*Table{none, {}} {
		tellsAll(t, tab, nil, "a", keyOf(128), keyOf(129))
		for e := range tab.From("") {
			t.Error(e)
		}
		for e := range tab.From("zz") {
			t.Error(e)
		}
	}
}

// P6.4

// tableOrNone says whether a text is a table; if it is, that what it tells is right, and Build of that a table with the same entries.
func tableOrNone(t *testing.T, s string) bool {
	t.Helper()
	tab, e := Open(s)
	if e != api.OK {
		if e != api.ErrBad || tab != nil {
			t.Fatalf("%q: error %d, table %v", s, e, tab != nil)
		}
		return false
	}
	l := slices.Collect(tab.From(""))
	if !slowRight(l) {
		t.Fatalf("%q: what it tells is not right: %v", s, l)
	}
	tellsAll(t, tab, l)
	tellsAll(t, of(t, l), l)
	return true
}

// spoil is a text with something done to it.
func spoil(r *rand.Rand, s string) string {
	b := []byte(s)
	for range 1 + r.IntN(3) {
		i, j := r.IntN(len(b)+1), r.IntN(len(b)+1)
		switch r.IntN(6) {
		case 0:
			b = slices.Insert(b, i, byte(r.IntN(256)))
		case 1:
			b = slices.Delete(b, min(i, j), max(i, j))
		case 2:
			b = slices.Concat(b[:i], b[j:])
		case 3:
			b = slices.Concat(b[:max(i, j)], b[min(i, j):])
		default:
			if i < len(b) {
				b[i] += byte(1 + r.IntN(3))
			}
		}
	}
	return string(b)
}

// Texts with a right sum, of which nobody knows what stands in them.
func TestForgedTexts(t *testing.T) {
	r := rand.New(rand.NewPCG(6, 6))
	tables := 0
	for range 30000 {
		s := sealed(spoil(r, bare(built(t, chance(r, 1+r.IntN(40))))))
		if tableOrNone(t, s) {
			tables++
		}
	}
	if tables == 0 {
		t.Error("none of them was a table, which tries nothing")
	}
}

func TestForgedNumbers(t *testing.T) {
	for what, step := range map[string]int{"none": 1, "L": 1, "one gone": 1, "beginnings": 1, "and one more": 15} {
		body := []byte(bare(built(t, kinds(t)[what])))
		for i, was := range body {
			for x := 0; x < 256; x += step {
				body[i] = was + byte(x)
				tableOrNone(t, sealed(string(body)))
			}
			body[i] = was
		}
	}
}

// What is no right list is no table, though it lies as one.
func TestWrongListsAreNoTables(t *testing.T) {
	for what, l := range map[string][]Entry{
		"fall":           rowsOf("b 1 a 2"),
		"twice":          rowsOf("a 1 a 2"),
		"no key":         one("", "v", false),
		"long key":       one(keyOf(129), "v", false),
		"longest key":    one(keyOf(255), "v", false),
		"too many":       numbered(Most+1, 0),
		"too many bytes": filled(t, Bytes+1),
		"very long":      one("a", strings.Repeat("v", 20000), false),
	} {
		isNone(t, what, text(l))
	}
	// The same, of lists that are right, are tables.
	for what, l := range kinds(t) {
		if text(l) != built(t, l) {
			t.Errorf("%s: this tries nothing", what)
		}
	}
}

func FuzzOpen(f *testing.F) {
	for _, words := range []string{"", "a 1", "a 1 b - c 3", "a - aa 2"} {
		s, _ := Build(rowsOf(words))
		f.Add(s)
	}
	f.Fuzz(func(t *testing.T, s string) {
		tableOrNone(t, s)
		tableOrNone(t, sealed(s))
	})
}
