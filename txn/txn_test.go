package txn

import (
	"fmt"
	"iter"
	"maps"
	"math"
	"slices"
	"strings"
	"testing"

	"redress/api"
	"redress/disk"
	"redress/table"
)

// has is what a db is to have.
type has map[string]string

// after is that with a list of puts behind it, done one behind the other.
func (h has) after(l []api.Put) has {
	h = maps.Clone(h)
	if h == nil {
		h = has{}
	}
	for _, p := range l {
		if p.Gone {
			delete(h, p.Key)
		} else {
			h[p.Key] = p.Value
		}
	}
	return h
}

// under is the keys that begin with a prefix, rising.
func (h has) under(prefix string) []string {
	var keys []string
	for _, key := range slices.Sorted(maps.Keys(h)) {
		if strings.HasPrefix(key, prefix) {
			keys = append(keys, key)
		}
	}
	return keys
}

// puts is a list of words: a key with a value behind it, or with - where it is gone.
func puts(words string) []api.Put {
	var l []api.Put
	fields := strings.Fields(words)
	for i := 0; i < len(fields); i += 2 {
		if fields[i+1] == "-" {
			l = append(l, api.Put{Key: fields[i], Gone: true})
		} else {
			l = append(l, api.Put{Key: fields[i], Value: fields[i+1]})
		}
	}
	return l
}

// numbered is puts whose keys are numbers from one on, each with a value of some length.
func numbered(from, n, value int) []api.Put {
	l := make([]api.Put, n)
	for i := range l {
		l[i] = api.Put{Key: fmt.Sprintf("k%06d", from+i), Value: strings.Repeat(string(rune('a'+(from+i)%26)), value)}
	}
	return l
}

// gone is puts of the same keys which say that these are gone.
func gone(l []api.Put) []api.Put {
	l = slices.Clone(l)
	for i := range l {
		l[i].Gone = true
	}
	return l
}

// bytesOf is how many bytes of keys and values puts have.
func bytesOf(l []api.Put) int {
	n := 0
	for _, p := range l {
		n += len(p.Key) + len(p.Value)
	}
	return n
}

// filled is puts of so many bytes in all, each of another key.
func filled(t *testing.T, bytes int) []api.Put {
	t.Helper()
	l := numbered(0, (bytes+api.MaxCell-1)/api.MaxCell, 0)
	for i := range l {
		l[i].Value = strings.Repeat("v", min(api.MaxCell, bytes-bytesOf(l)))
	}
	if bytesOf(l) != bytes || len(l) > api.MaxBatch {
		t.Fatalf("there are no %d bytes of puts", bytes)
	}
	return l
}

// short is what an error message shows of a text.
func short(s string) string {
	if len(s) > 12 {
		return fmt.Sprintf("%q and %d more", s[:8], len(s)-8)
	}
	return fmt.Sprintf("%q", s)
}

// want says where a call's error is another one.
func want(t *testing.T, what string, got, wanted api.Errno) {
	t.Helper()
	if got != wanted {
		t.Fatalf("%s: error %d, not %d", what, got, wanted)
	}
}

// opens is a db that Open must make.
func opens(t *testing.T, what string, d *disk.Disk) *Db {
	t.Helper()
	b, e := Open(d)
	if b == nil || e != api.OK {
		t.Fatalf("%s: Open: error %d", what, e)
	}
	return b
}

// commits commits lists, and is what there is to be behind that.
func commits(t *testing.T, b *Db, h has, lists ...[]api.Put) has {
	t.Helper()
	for _, l := range lists {
		want(t, "Commit", b.Commit(l), api.OK)
		h = h.after(l)
	}
	return h
}

// again is a disk of the same files, with power, room and place for more files, and no fuse; of tails all is kept.
func again(d *disk.Disk) *disk.Disk {
	d = d.Twin()
	d.Crash(slices.Repeat([]int{math.MaxInt}, api.MaxFiles))
	d.Start()
	d.Room(-1)
	for _, name := range d.List() {
		if strings.HasPrefix(name, "other") {
			d.Remove(name)
		}
	}
	return d
}

// fill puts other files on a disk till it has so many in all.
func fill(t *testing.T, d *disk.Disk, files int) {
	t.Helper()
	for len(d.List()) < files {
		want(t, "Create", d.Create(fmt.Sprint("other", len(d.List()))), api.OK)
	}
}

// reader is what keys are told by: a db, or a snapshot.
type reader interface {
	Get(key string) (string, bool)
	Range(prefix string) iter.Seq2[string, string]
}

// ranges says where what is ranged over is another thing than the keys that begin with a prefix.
func ranges(t *testing.T, what string, seq iter.Seq2[string, string], h has, prefix string) {
	t.Helper()
	wanted := h.under(prefix)
	i := 0
	for k, v := range seq {
		if i >= len(wanted) || k != wanted[i] || v != h[k] {
			t.Fatalf("%s: Range(%s) tells at %d %s, %s; there are %d", what, short(prefix), i, short(k), short(v), len(wanted))
		}
		i++
	}
	if i != len(wanted) {
		t.Fatalf("%s: Range(%s) tells %d keys, not %d", what, short(prefix), i, len(wanted))
	}
}

// gets says where a key has another value.
func gets(t *testing.T, what string, r reader, h has, key string) {
	t.Helper()
	wanted, there := h[key]
	if v, ok := r.Get(key); ok != there || v != wanted {
		t.Fatalf("%s: Get(%s): %s, %v; not %s, %v", what, short(key), short(v), ok, short(wanted), there)
	}
}

// prefixes are some that are keys, some that begin keys, and some that begin none.
func prefixes(h has) []string {
	l := []string{"", "\x00", "k", "k0", "a/", "nothing", "\xff", "k\xff", "\xff\xff", "\xff\xff\xff\xff\xff\xff", strings.Repeat("k", api.MaxKey), strings.Repeat("k", 1000)}
	keys := h.under("")
	for i := 0; i < len(keys); i += len(keys)/3 + 1 {
		key := keys[i]
		l = append(l, key, key+"\x00", key+"\xff", key[:len(key)-1], key[:len(key)-1]+"\xff", key[:(len(key)+1)/2])
	}
	return l
}

// tells says where something tells other keys and values.
func tells(t *testing.T, what string, r reader, h has) {
	t.Helper()
	for _, prefix := range prefixes(h) {
		ranges(t, what, r.Range(prefix), h, prefix)
		gets(t, what, r, h, prefix)
	}
	for key := range h {
		gets(t, what, r, h, key)
	}
}

// keeps says where a db that is given up, and opened again on a twin of its disk, has other keys and values.
func keeps(t *testing.T, what string, d *disk.Disk, h has) {
	t.Helper()
	tells(t, what+", opened again", opens(t, what+", opened again", again(d)), h)
}

// refuses says where a list is not too long, or something comes of it.
func refuses(t *testing.T, what string, b *Db, h has, l []api.Put) {
	t.Helper()
	before := b.disk.Twin()
	want(t, what, b.Commit(l), api.ErrLong)
	if b.Down() {
		t.Fatalf("%s: the db is down", what)
	}
	ranges(t, what, b.Range(""), h, "")
	if !disk.Same(b.disk, before) {
		t.Fatalf("%s: the disk has changed", what)
	}
}

// accepts says where a list is too long, or is not there then, whole, opened again, too.
func accepts(t *testing.T, what string, l []api.Put) {
	t.Helper()
	d := disk.New()
	b := opens(t, what, d)
	h := commits(t, b, nil, puts("zz/1 a zz/2 b"))
	want(t, what, b.Commit(l), api.OK)
	tells(t, what, b, h.after(l))
	tells(t, what, b.Snap(), h.after(l))
	keeps(t, what, d, h.after(l))
}

// The examples

func TestExamples(t *testing.T) {
	d := disk.New()
	b := opens(t, "a new one", d)
	tells(t, "a new one", b, nil)
	want(t, "Commit", b.Commit(puts("a/1 x a/2 y b z a/1 w")), api.OK)
	gets(t, "the last one counts", b, has{"a/1": "w"}, "a/1")
	ranges(t, "a/", b.Range("a/"), has{"a/1": "w", "a/2": "y"}, "")
	s := b.Snap()
	want(t, "Commit", b.Commit(puts("a/1 -")), api.OK)
	if v, ok := b.Get("a/1"); ok || v != "" {
		t.Errorf("Get of a key that is gone: %q, %v", v, ok)
	}
	gets(t, "the snapshot", s, has{"a/1": "w"}, "a/1")
	ranges(t, "the snapshot", s.Range(""), has{"a/1": "w", "a/2": "y", "b": "z"}, "")
	want(t, "a key of no bytes", b.Commit([]api.Put{{Value: "x"}}), api.ErrLong)
	want(t, "65 puts", b.Commit(numbered(0, 65, 1)), api.ErrLong)
	want(t, "gone, with a Value", b.Commit([]api.Put{{Key: "b", Value: strings.Repeat("v", 20000), Gone: true}}), api.OK)
	tells(t, "at last", b, has{"a/2": "y"})
	keeps(t, "at last", d, has{"a/2": "y"})
}

// P10.1: Open

func TestOpenErrors(t *testing.T) {
	if b, e := Open(nil); b != nil || e != api.ErrNil {
		t.Errorf("Open of no disk: %v, error %d", b, e)
	}
	off, full, bad := disk.New(), disk.New(), disk.New()
	off.Crash(nil)
	fill(t, full, api.MaxFiles)
	opens(t, "a new one", bad)
	want(t, "Create", bad.Create("table.x"), api.OK)
	badOff := bad.Twin()
	badOff.Crash(nil)
	for _, x := range []struct {
		what   string
		d      *disk.Disk
		wanted api.Errno
	}{{"no power", off, api.ErrDown}, {"no files left", full, api.ErrFull}, {"bad files", bad, api.ErrBad}, {"no power, and bad files", badOff, api.ErrDown}} {
		before := x.d.Twin()
		if b, e := Open(x.d); b != nil || e != x.wanted || !disk.Same(x.d, before) {
			t.Errorf("Open, %s: error %d, or something has changed", x.what, e)
		}
	}
}

// The power goes at each change that opening a db makes: there is none, and the disk is one of which a db can be opened.
func TestPowerGoesInOpen(t *testing.T) {
	behind := disk.New()
	h := commits(t, opens(t, "a new one", behind), nil, puts("a 1 b 2"))
	b := opens(t, "again", behind)
	behind.Fuse(1)
	want(t, "Commit", b.Commit(puts("c 3")), api.ErrDown)
	behind.Crash([]int{9})
	behind.Start()
	for what, x := range map[string]struct {
		d *disk.Disk
		h has
	}{"a new disk": {disk.New(), nil}, "a tail that was cut": {behind, h}} {
		for fuse := 1; ; fuse++ {
			d := x.d.Twin()
			d.Fuse(fuse)
			b, e := Open(d)
			if e == api.OK {
				tells(t, what, b, x.h)
				break
			}
			if b != nil || e != api.ErrDown {
				t.Fatalf("%s, fuse %d: error %d", what, fuse, e)
			}
			d.Start()
			tells(t, what, opens(t, what, d), x.h)
		}
	}
}

// A db has what the store has, whoever wrote that.
func TestOpenHasWhatTheStoreHas(t *testing.T) {
	d := disk.New()
	b := opens(t, "a new one", d)
	l := []table.Entry{{Key: "a", Value: "1"}, {Key: "b", Gone: true}, {Key: "c"}}
	want(t, "Write", b.store.Write(l), api.OK)
	want(t, "Flush", b.store.Flush(), api.OK)
	tells(t, "written", b, has{"a": "1", "c": ""})
	tells(t, "opened again", opens(t, "opened again", d), has{"a": "1", "c": ""})
}

// A db that is opened again has what it had, on the disk of the first one too, and goes on from there.
func TestOpenedAgain(t *testing.T) {
	d := disk.New()
	var h has
	for i := range 40 {
		b := opens(t, "opened", d)
		tells(t, "opened", b, h)
		h = commits(t, b, h, numbered(i*7, 40, 50*i), gone(numbered(i*9, 20, 3)), numbered(i, 1, i))
		tells(t, "committed", b, h)
		keeps(t, "committed", d, h)
	}
}

// P10.2: Commit

// What is too long, one more than what is not.
func TestLong(t *testing.T) {
	accepts(t, "nothing", nil)
	accepts(t, "a list of none", []api.Put{})
	accepts(t, "one put", puts("a 1"))
	accepts(t, "MaxBatch puts", numbered(0, api.MaxBatch, 2))
	accepts(t, "MaxBatch puts of one key", slices.Repeat(puts("a 1"), api.MaxBatch))
	accepts(t, "MaxBatch puts that are gone", gone(numbered(0, api.MaxBatch, 2)))
	long := strings.Repeat("k", api.MaxKey)
	cell := strings.Repeat("v", api.MaxCell)
	accepts(t, "the longest put", []api.Put{{Key: long, Value: cell}})
	accepts(t, "a short key, no value", []api.Put{{Key: "k"}})
	accepts(t, "a long key that is gone", []api.Put{{Key: long, Gone: true}})
	accepts(t, "a long value that is gone", []api.Put{{Key: "zz/1", Value: cell + "v", Gone: true}})
	accepts(t, "a very long value that is gone", []api.Put{{Key: "zz/1", Value: strings.Repeat("v", 1<<21), Gone: true}, {Key: "zz/2", Value: cell}})

	d := disk.New()
	b := opens(t, "a new one", d)
	h := commits(t, b, nil, puts("a 1 b 2"))
	refuses(t, "one put more", b, h, numbered(0, api.MaxBatch+1, 2))
	refuses(t, "one put more, of one key", b, h, slices.Repeat(puts("a 3"), api.MaxBatch+1))
	refuses(t, "one put more, gone", b, h, slices.Repeat(puts("a -"), api.MaxBatch+1))
	refuses(t, "very many puts", b, h, numbered(0, 5000, 0))
	for what, p := range map[string]api.Put{
		"no key":                   {},
		"no key, a value":          {Value: "x"},
		"no key, gone":             {Gone: true},
		"a key too long":           {Key: long + "k"},
		"a key too long, gone":     {Key: long + "k", Gone: true},
		"a key much too long":      {Key: strings.Repeat("a", 1<<20), Value: "x"},
		"a value too long":         {Key: "a", Value: cell + "v"},
		"a value much too long":    {Key: "a", Value: strings.Repeat("v", 1<<21)},
		"both a bit too long":      {Key: long + "k", Value: cell + "v"},
		"a key too long, and gone": {Key: long + "k", Value: cell + "v", Gone: true},
	} {
		refuses(t, what, b, h, []api.Put{p})
		refuses(t, what+", behind others", b, h, append(puts("a 3 c 4"), p))
		refuses(t, what+", ahead of others", b, h, append([]api.Put{p}, puts("a 3 c 4")...))
		refuses(t, what+", ahead of one that counts", b, h, []api.Put{p, {Key: p.Key, Value: "x"}})
		refuses(t, what+", ahead of one that is gone", b, h, []api.Put{p, {Key: p.Key, Gone: true}})
		refuses(t, what+", last of many", b, h, append(numbered(0, api.MaxBatch-1, 1), p))
	}
	keeps(t, "at last", d, h)
}

// Only of the puts that count the bytes do: not those of one behind which another one of its key comes, nor the value of one that is gone.
func TestBytesThatCount(t *testing.T) {
	most := filled(t, table.Bytes)
	more := filled(t, table.Bytes+1)
	cell := strings.Repeat("w", api.MaxCell)
	last := most[len(most)-1].Key
	gones := func(n int) []api.Put { return gone(filled(t, n)) }
	second := func(l []api.Put) []api.Put { // each of them ahead of itself, with a long value
		l = slices.Clone(l)
		for i := range l {
			l[i].Value = cell
		}
		return l
	}
	keys := func(l []api.Put) []api.Put {
		l = slices.Clone(l)
		l[0].Value = l[0].Value[3:]
		return append(l, puts("zzz -")...)
	}
	accepts(t, "the most bytes", most)
	accepts(t, "less", filled(t, table.Bytes-1))
	accepts(t, "one key more that is gone", keys(most))
	accepts(t, "one that doesn't count, too", append([]api.Put{{Key: last, Value: cell}}, most...))
	accepts(t, "as many that don't count", append(second(most[:31]), most...))
	accepts(t, "too many ahead of as many", append(slices.Clone(more[:len(more)-1]), most[len(most)-1]))
	accepts(t, "too many, most of them gone behind", append(slices.Clone(more[:30]), gones(table.Bytes)...))
	accepts(t, "values of many that are gone", gones(1<<19+9999))
	accepts(t, "gone, and come back", append(gone(most[:20]), most...))
	accepts(t, "come, and gone", append(slices.Clone(more), gone(more[:20])...))

	d := disk.New()
	b := opens(t, "a new one", d)
	h := commits(t, b, nil, puts("a 1 b 2"))
	refuses(t, "one byte more", b, h, more)
	refuses(t, "many bytes more", b, h, numbered(0, api.MaxBatch, api.MaxCell))
	refuses(t, "one byte more of a key", b, h, append(slices.Clone(most), api.Put{Key: "k"}))
	refuses(t, "one byte more of a key that is gone", b, h, append(slices.Clone(most), api.Put{Key: "k", Gone: true}))
	refuses(t, "one byte more, turned round", b, h, append(slices.Clone(more[len(more)-1:]), more[:len(more)-1]...))
	refuses(t, "one byte more, beside one that doesn't count", b, h, append([]api.Put{{Key: last}}, more...))
	refuses(t, "one byte more, gone and come back", b, h, append(gone(more[:20]), more...))
	keeps(t, "at last", d, h)
}

// Of several puts of one key the last one counts, whatever stands between them.
func TestLastOneCounts(t *testing.T) {
	for _, x := range []struct {
		l string
		h has
	}{
		{"", has{"a": "0", "b": "0"}},
		{"a 1 a 2 a 3", has{"a": "3", "b": "0"}},
		{"a 1 a -", has{"b": "0"}},
		{"a - a 1", has{"a": "1", "b": "0"}},
		{"a - a 1 a -", has{"b": "0"}},
		{"a - a 1 a - a 0", has{"a": "0", "b": "0"}},
		{"c 1 a - c - b 2 c 3 a 4 b -", has{"a": "4", "c": "3"}},
		{"c - c -", has{"a": "0", "b": "0"}},
		{"c 1 c -", has{"a": "0", "b": "0"}},
		{"b 1 a 2 b 3 a 4 ab 5 b 6", has{"a": "4", "ab": "5", "b": "6"}},
		{"b - a -", has{}},
	} {
		d := disk.New()
		b := opens(t, "a new one", d)
		h := commits(t, b, nil, puts("a 0 b 0"), puts(x.l))
		if !maps.Equal(h, x.h) {
			t.Fatalf("%q: the test has %v", x.l, h)
		}
		tells(t, x.l, b, x.h)
		keeps(t, x.l, d, x.h)
	}
}

// Keys that are gone in one list come back in another, and the other way about.
func TestGoneAndBack(t *testing.T) {
	d := disk.New()
	b := opens(t, "a new one", d)
	var h has
	for i := range 30 {
		h = commits(t, b, h, puts(fmt.Sprint("a ", i, " b ", i)), puts("a -"), puts(fmt.Sprint("b - a ", i)), puts("a - a 7 b -"))
		tells(t, "a", b, has{"a": "7"})
		keeps(t, "a", d, has{"a": "7"})
	}
}

// Which error comes first where more than one is due.
func TestWhichErrorComesFirst(t *testing.T) {
	long := numbered(0, 65, 1)
	d := disk.New()
	b := opens(t, "a new one", d)
	h := commits(t, b, nil, puts("a 1"))
	d.Room(d.Used())
	refuses(t, "too long, and no room", b, h, long)
	fill(t, d, api.MaxFiles)
	refuses(t, "too long, no room, no files", b, h, long)
	want(t, "no room", b.Commit(puts("b 2")), api.ErrFull)
	d.Crash(nil)
	want(t, "too long, and no power", b.Commit(long), api.ErrLong)
	want(t, "no room, and no power", b.Commit(puts("b 2")), api.ErrDown)
	d.Start()
	want(t, "too long, and it is down", b.Commit([]api.Put{{}}), api.ErrLong)
	want(t, "no room, and it is down", b.Commit(puts("b 2")), api.ErrDown)
	d.Room(-1)
	want(t, "it is down", b.Commit(puts("b 2")), api.ErrDown)
	want(t, "nothing, and it is down", b.Commit(nil), api.ErrDown)
	var none *Db
	for _, b := range []*Db{none, {}} {
		want(t, "no db", b.Commit(nil), api.ErrNil)
		want(t, "no db, a list", b.Commit(puts("a 1")), api.ErrNil)
		want(t, "no db, too long", b.Commit(long), api.ErrNil)
	}
	tells(t, "at last", b, h)
	keeps(t, "at last", d, h)
}

// P10.3: what is told

func TestRangeByPrefix(t *testing.T) {
	b := opens(t, "a new one", disk.New())
	var l []api.Put
	keys := []string{"a", "a/", "a/1", "a/1/x", "a/2", "a0", "ab", "b", "\x00", "\x00\x00", "\x00\xff", "\xff", "\xff\xff", "\xff\xff\x00", "\xfe\xff", "a\xff", "a\xff\xff", "a\xff\x00", "\xc3\xa9", strings.Repeat("z", api.MaxKey)}
	for i, key := range keys {
		l = append(l, api.Put{Key: key, Value: fmt.Sprint(i)})
	}
	h := commits(t, b, nil, l)
	for _, r := range []reader{b, b.Snap()} {
		for _, key := range keys {
			for n := range len(key) + 1 {
				ranges(t, "a beginning of a key", r.Range(key[:n]), h, key[:n])
			}
			for _, more := range []string{"\x00", "\xff", "/", "1"} {
				ranges(t, "a key and more", r.Range(key+more), h, key+more)
			}
		}
		for _, x := range []struct{ prefix, wanted string }{
			{"a/", "a/ a/1 a/1/x a/2"}, {"a/1", "a/1 a/1/x"}, {"a/1/x", "a/1/x"}, {"a/1/xy", ""}, {"b", "b"}, {"c", ""}, {"\xff", "\xff \xff\xff \xff\xff\x00"}, {"\xff\xff", "\xff\xff \xff\xff\x00"}, {"\xff\xff\xff", ""}, {"a\xff", "a\xff a\xff\x00 a\xff\xff"}, {"\xfe", "\xfe\xff"}, {"\xc3", "\xc3\xa9"}, {"\xa9", ""},
		} {
			var told []string
			for key := range r.Range(x.prefix) {
				told = append(told, key)
			}
			if got := strings.Join(told, " "); got != x.wanted {
				t.Errorf("Range(%q) tells %q, not %q", x.prefix, got, x.wanted)
			}
		}
		var all []string
		for key := range r.Range("") {
			all = append(all, key)
		}
		if !slices.Equal(all, slices.Sorted(slices.Values(keys))) {
			t.Errorf("Range of nothing tells %q", all)
		}
		for _, key := range []string{"", "a/3", "A", "\xff\xff\xff", strings.Repeat("z", api.MaxKey-1), strings.Repeat("z", api.MaxKey+1)} {
			gets(t, "no key", r, h, key)
		}
	}
}

// A value may be empty; then the key is there.
func TestEmptyValue(t *testing.T) {
	d := disk.New()
	b := opens(t, "a new one", d)
	commits(t, b, nil, []api.Put{{Key: "a"}, {Key: "b", Value: "x"}, {Key: "b"}})
	for _, r := range []reader{b, b.Snap(), opens(t, "again", d)} {
		for _, key := range []string{"a", "b"} {
			if v, ok := r.Get(key); !ok || v != "" {
				t.Errorf("Get(%s): %q, %v", key, v, ok)
			}
		}
		ranges(t, "empty values", r.Range(""), has{"a": "", "b": ""}, "")
	}
}

// A snapshot, and what a Range hands out, tell what there was, whatever is committed meanwhile and whatever becomes of the db.
func TestWhatThereWas(t *testing.T) {
	type kept struct {
		s                *Snap
		all, some, other iter.Seq2[string, string]
		h                has
	}
	d := disk.New()
	b := opens(t, "a new one", d)
	var rows []kept
	var h has
	check := func(what string) {
		t.Helper()
		for i, x := range rows {
			here := fmt.Sprintf("%s, row %d", what, i)
			for range 2 {
				ranges(t, here, x.all, x.h, "")
				ranges(t, here, x.some, x.h, "k00001")
				ranges(t, here, x.other, x.h, "k00001")
			}
			ranges(t, here, x.s.Range("k"), x.h, "k")
			gets(t, here, x.s, x.h, "k000015")
		}
		tells(t, what, rows[0].s, rows[0].h)
	}
	for i := range 60 {
		s := b.Snap()
		rows = append(rows, kept{s, b.Range(""), b.Range("k00001"), s.Range("k00001"), h})
		switch i % 3 {
		case 0:
			h = commits(t, b, h, numbered(i, 30, 60*i))
		case 1:
			h = commits(t, b, h, gone(numbered(i/2, 25, 0)))
		case 2:
			want(t, "Flush", b.store.Flush(), api.OK)
		}
		if i%20 == 19 {
			check("meanwhile")
		}
	}
	check("behind all")
	d.Fuse(1)
	want(t, "Commit", b.Commit(puts("k000015 x")), api.ErrDown)
	check("dead")
	for _, name := range d.List() {
		d.Remove(name)
	}
	d.Start()
	for _, name := range d.List() {
		d.Remove(name)
	}
	check("without its files")
	tells(t, "without its files", b, h)
}

// What Range hands out may be left early, gone over again, and gone over within itself while lists are committed.
func TestRangeLeftEarly(t *testing.T) {
	b := opens(t, "a new one", disk.New())
	h := commits(t, b, nil, puts("a 1 b/1 2 b/2 3 b/3 4 c 5"))
	for _, r := range []reader{b, b.Snap()} {
		seq := r.Range("b/")
		for n := range 5 {
			var told []string
			for key := range seq {
				if len(told) == n {
					break
				}
				told = append(told, key)
			}
			if wanted := h.under("b/")[:min(n, 3)]; !slices.Equal(told, wanted) {
				t.Errorf("left at %d: told %v", n, told)
			}
			ranges(t, "gone over again", seq, h, "b/")
		}
		var told []string
		for key, value := range seq {
			want(t, "Commit", b.Commit([]api.Put{{Key: "b/0", Value: "new"}, {Key: key, Gone: true}, {Key: "b/3", Gone: true}}), api.OK)
			for other, value := range seq {
				told = append(told, key+other+value)
				break
			}
			told = append(told, key+value)
		}
		if got := strings.Join(told, " "); got != "b/1b/12 b/12 b/2b/12 b/23 b/3b/12 b/34" {
			t.Errorf("within itself: told %s", got)
		}
		want(t, "Commit", b.Commit(puts("b/0 - b/1 2 b/2 3 b/3 4")), api.OK)
	}
}

// A panic of whoever ranges goes on, and the function can be gone over again.
func TestRangePanics(t *testing.T) {
	b := opens(t, "a new one", disk.New())
	h := commits(t, b, nil, puts("a 1 b 2"))
	seq := b.Range("")
	func() {
		defer func() {
			if recover() != "mine" {
				t.Errorf("a panic of the one who ranges is lost")
			}
		}()
		for range seq {
			panic("mine")
		}
	}()
	ranges(t, "behind a panic", seq, h, "")
}

// What is embedded is the store's view, and what that can a snapshot can.
func TestSnapIsView(t *testing.T) {
	b := opens(t, "a new one", disk.New())
	commits(t, b, nil, puts("a 1 b 2 c 3"))
	s := b.Snap()
	var told []string
	for key, value := range s.From("b") {
		told = append(told, key+value)
	}
	if got := strings.Join(told, " "); got != "b2 c3" {
		t.Errorf("From(b) tells %s", got)
	}
}

// P10.3: Down

func TestDown(t *testing.T) {
	var none *Db
	if !none.Down() {
		t.Errorf("a nil db is not down")
	}
	d := disk.New()
	b := opens(t, "a new one", d)
	down := func(what string, wanted bool) {
		t.Helper()
		if b.Down() != wanted {
			t.Errorf("%s: Down is %v", what, !wanted)
		}
	}
	down("a new one", false)
	h := commits(t, b, nil, puts("a 1"))
	down("OK", false)
	want(t, "Commit", b.Commit([]api.Put{{}}), api.ErrLong)
	down("ErrLong", false)
	d.Room(0)
	want(t, "Commit", b.Commit(puts("b 2")), api.ErrFull)
	down("ErrFull", false)
	d.Room(-1)
	d.Crash(nil)
	down("the power is off", true)
	tells(t, "the power is off", b, h)
	want(t, "Commit", b.Commit(numbered(0, 65, 0)), api.ErrLong)
	down("the power is off, ErrLong", true)
	d.Start()
	down("the power is on again", false)
	h = commits(t, b, h, puts("b 2"))
	down("the power is on again, OK", false)
	d.Crash(nil)
	want(t, "Commit", b.Commit(nil), api.ErrDown)
	down("ErrDown", true)
	d.Start()
	down("ErrDown, and the power is on again", true)
	want(t, "Commit", b.Commit(puts("c 3")), api.ErrDown)
	down("ErrDown again", true)
	tells(t, "down", b, h)
	tells(t, "down, its snapshot", b.Snap(), h)
	d.Remove("log")
	down("whatever is done to the disk", true)

	d = disk.New()
	b = opens(t, "a new one", d)
	other := opens(t, "another one", d)
	d.Fuse(2)
	want(t, "Commit", other.Commit(puts("a 1")), api.ErrDown)
	down("another one's ErrDown, the power is off", true)
	d.Start()
	down("another one's ErrDown", false)
	if !other.Down() {
		t.Errorf("ErrDown: Down is false")
	}
}

// A disk on which another db has written since is not the one that was left: that is as if the power had gone.
func TestAnotherDbWrote(t *testing.T) {
	d := disk.New()
	b := opens(t, "a new one", d)
	h := commits(t, b, nil, puts("a 1"))
	other := opens(t, "another one", d)
	more := commits(t, other, h, puts("b 2"))
	want(t, "Commit of the first one", b.Commit(puts("c 3")), api.ErrDown)
	if !b.Down() || other.Down() {
		t.Errorf("the first one is down: %v; the other one: %v", b.Down(), other.Down())
	}
	tells(t, "the first one", b, h)
	more = commits(t, other, more, puts("d 4"))
	keeps(t, "the other one", d, more)
}

// P10.4: those that are none

func TestNone(t *testing.T) {
	var b *Db
	var s *Snap
	readers := map[string]reader{"a nil db": b, "one that Open did not make": &Db{}, "a nil snapshot": s, "a nil db's snapshot": b.Snap(), "the snapshot of one that Open did not make": (&Db{}).Snap(), "a snapshot of nothing": &Snap{}}
	for what, r := range readers {
		tells(t, what, r, nil)
	}
	if !(&Db{}).Down() {
		t.Errorf("one that Open did not make is not down")
	}
}

// P10.5: what follows

// Two lists that have no key in common come to the same in either order, and as one.
func TestListsApart(t *testing.T) {
	for seed := range 60 {
		r := newDice(seed)
		z := size{keys: 40, list: 20, value: 300}
		begin, one, two := r.list(z), r.list(z), r.list(z)
		two = slices.DeleteFunc(two, func(p api.Put) bool {
			return slices.ContainsFunc(one, func(q api.Put) bool { return p.Key == q.Key })
		})
		h := has{}.after(begin).after(one).after(two)
		for what, lists := range map[string][][]api.Put{"in order": {one, two}, "turned round": {two, one}, "as one": {append(slices.Clone(one), two...)}, "as one, turned round": {append(slices.Clone(two), one...)}} {
			d := disk.New()
			b := opens(t, what, d)
			commits(t, b, nil, begin)
			commits(t, b, nil, lists...)
			tells(t, what, b, h)
			keeps(t, what, d, h)
		}
	}
}

// A snapshot never changes: of two that were made with nothing between them both tell the same, and of a db's the newest one alone tells what was committed last.
func TestSnapsStandAlone(t *testing.T) {
	d := disk.New()
	b := opens(t, "a new one", d)
	var all []*Snap
	var had []has
	var h has
	for i := range 50 {
		all = append(all, b.Snap(), b.Snap())
		had = append(had, h, h)
		h = commits(t, b, h, puts(fmt.Sprintf("a %d b%d x b%d -", i, i, i/2)))
	}
	for i, s := range all {
		tells(t, fmt.Sprint("snapshot ", i), s, had[i])
	}
	tells(t, "at last", b.Snap(), h)
}
