package store

import (
	"fmt"
	"iter"
	"maps"
	"math"
	"slices"
	"strings"
	"testing"

	"redress/api"
	"redress/disk"
	"redress/manifest"
	"redress/table"
	"redress/wal"
)

// has is what a store is to have.
type has map[string]string

// after is that with a batch behind it.
func (h has) after(l []table.Entry) has {
	h = maps.Clone(h)
	if h == nil {
		h = has{}
	}
	for _, e := range l {
		if e.Gone {
			delete(h, e.Key)
		} else {
			h[e.Key] = e.Value
		}
	}
	return h
}

// from is the keys from one on.
func (h has) from(key string) []string {
	keys := slices.Sorted(maps.Keys(h))
	i, _ := slices.BinarySearch(keys, key)
	return keys[i:]
}

// entriesOf is entries of words: a key with a value behind it, or with - where it is gone.
func entriesOf(words string) []table.Entry {
	var l []table.Entry
	fields := strings.Fields(words)
	for i := 0; i < len(fields); i += 2 {
		if fields[i+1] == "-" {
			l = append(l, table.Entry{Key: fields[i], Gone: true})
		} else {
			l = append(l, table.Entry{Key: fields[i], Value: fields[i+1]})
		}
	}
	return l
}

// numbered is entries whose keys are numbers from one on, step by step, each with a value of some length.
func numbered(from, n, step, value int) []table.Entry {
	l := make([]table.Entry, n)
	for i := range l {
		key := from + i*step
		l[i] = table.Entry{Key: fmt.Sprintf("k%06d", key), Value: strings.Repeat(string(rune('a'+key%26)), value)}
	}
	return l
}

// gone is entries of the same keys which say that these are gone.
func gone(l []table.Entry) []table.Entry {
	l = slices.Clone(l)
	for i := range l {
		l[i].Value, l[i].Gone = "", true
	}
	return l
}

// short is what an error message shows of a text.
func short(s string) string {
	if len(s) > 12 {
		return fmt.Sprintf("%q and %d more", s[:8], len(s)-8)
	}
	return fmt.Sprintf("%q", s)
}

// want says where a call's error is another one.
func want(t *testing.T, what string, got, wanted api.Errno) {
	t.Helper()
	if got != wanted {
		t.Fatalf("%s: error %d, not %d", what, got, wanted)
	}
}

// opens is a store that Open must make.
func opens(t *testing.T, what string, d *disk.Disk) *Store {
	t.Helper()
	s, e := Open(d)
	if s == nil || e != api.OK {
		t.Fatalf("%s: Open: error %d", what, e)
	}
	return s
}

// again is a disk of the same files, with power, room and place for more files, and no fuse; of tails all is kept.
func again(d *disk.Disk) *disk.Disk {
	d = d.Twin()
	d.Crash(slices.Repeat([]int{math.MaxInt}, api.MaxFiles))
	d.Start()
	d.Room(-1)
	for _, name := range d.List() {
		if strings.HasPrefix(name, "other") {
			d.Remove(name)
		}
	}
	return d
}

// reader is what keys are told by.
type reader interface {
	Get(key string) (string, bool)
	From(key string) iter.Seq2[string, string]
}

// ranges says where what is ranged over is another thing than the keys of a store from one on.
func ranges(t *testing.T, what string, seq iter.Seq2[string, string], h has, key string) {
	t.Helper()
	wanted := h.from(key)
	i := 0
	for k, v := range seq {
		if i >= len(wanted) || k != wanted[i] || v != h[k] {
			t.Fatalf("%s: From(%q) tells at %d %s, %s; there are %d", what, key, i, short(k), short(v), len(wanted))
		}
		i++
	}
	if i != len(wanted) {
		t.Fatalf("%s: From(%q) tells %d keys, not %d", what, key, i, len(wanted))
	}
}

// tells says where something tells other keys and values.
func tells(t *testing.T, what string, r reader, h has) {
	t.Helper()
	ranges(t, what, r.From(""), h, "")
	keys := h.from("")
	for i, key := range keys {
		if v, ok := r.Get(key); !ok || v != h[key] {
			t.Fatalf("%s: Get(%q): %s, %v; not %s", what, key, short(v), ok, short(h[key]))
		}
		if i%(len(keys)/4+1) == 0 {
			ranges(t, what, r.From(key), h, key)
			ranges(t, what, r.From(key+"\x00"), h, key+"\x00")
		}
	}
	for _, key := range []string{"", "\x00", "k", "nothing", "\xff", strings.Repeat("k", 1000)} {
		if v, ok := r.Get(key); ok != (h[key] != "") && !ok || v != h[key] {
			t.Fatalf("%s: Get(%q): %s, %v", what, key, short(v), ok)
		}
	}
	ranges(t, what, r.From("\xff\xff"), h, "\xff\xff")
}

// rightFiles says where a store's tables are no right state's, or are not just those that lie on its disk.
func rightFiles(t *testing.T, what string, s *Store) {
	t.Helper()
	files := s.Files()
	var names []string
	next := 1
	for _, f := range files {
		names = append(names, nameOf(f.N))
		next = f.N + 1
	}
	want(t, what+": Check of the files", manifest.Check(manifest.State{Next: next, Files: files}), api.OK)
	var there []string
	for _, name := range s.disk.List() {
		if strings.HasPrefix(name, "table.") {
			there = append(there, name)
		}
		if strings.HasPrefix(name, "manifest.") && name != "manifest.main" {
			t.Fatalf("%s: there is a file %s", what, name)
		}
	}
	slices.Sort(names)
	if !slices.Equal(names, there) {
		t.Fatalf("%s: tables %v, files %v", what, names, there)
	}
}

// keeps says where a store that is given up, and opened again on a twin of its disk, has other keys and values, then or when all is flushed and compacted.
func keeps(t *testing.T, what string, d *disk.Disk, h has) {
	t.Helper()
	d = again(d)
	s := opens(t, what+", opened again", d)
	tells(t, what+", opened again", s, h)
	rightFiles(t, what+", opened again", s)
	want(t, what+", opened again, Flush", s.Flush(), api.OK)
	compacts(t, what+", opened again", s)
	tells(t, what+", opened again, and compacted", s, h)
}

// compacts compacts till there is nothing left to do, and is how often something was done.
func compacts(t *testing.T, what string, s *Store) int {
	t.Helper()
	for done := 0; ; done++ {
		more, e := s.Compact()
		want(t, what+": Compact", e, api.OK)
		if !more {
			if n := len(s.now.tables[0]); n > 3 {
				t.Fatalf("%s: %d tables of level 0, compacted", what, n)
			}
			return done
		}
		rightFiles(t, what, s)
		if done > 1000 {
			t.Fatalf("%s: there is no end of compacting", what)
		}
	}
}

// counts is how many tables there are of each level.
func counts(s *Store) [manifest.Levels]int {
	var n [manifest.Levels]int
	for _, f := range s.Files() {
		n[f.Level]++
	}
	return n
}

// writes commits batches, and is what there is to be behind that.
func writes(t *testing.T, s *Store, h has, batches ...[]table.Entry) has {
	t.Helper()
	for _, l := range batches {
		want(t, "Write", s.Write(l), api.OK)
		h = h.after(l)
	}
	return h
}

// fill puts other files on a disk till it has so many in all.
func fill(t *testing.T, d *disk.Disk, files int) {
	t.Helper()
	for len(d.List()) < files {
		want(t, "Create", d.Create(fmt.Sprint("other", len(d.List()))), api.OK)
	}
}

// others is what a disk has in all files but a store's, with their tails.
func others(d *disk.Disk) *disk.Disk {
	d = d.Twin()
	d.Start()
	d.Fuse(0)
	d.Room(-1)
	for _, name := range d.List() {
		begin, _, point := strings.Cut(name, ".")
		if point && slices.Contains([]string{"log", "table", "manifest"}, begin) {
			d.Remove(name)
		}
	}
	return d
}

// laid is a disk on which a store lies that has a table of a level for each list, those behind newer than those ahead.
type laid struct {
	level int
	list  []table.Entry
}

// lays makes such a disk, and what a store has on it.
func lays(t *testing.T, tables ...laid) (*disk.Disk, has) {
	t.Helper()
	d := disk.New()
	opens(t, "a new one", d)
	m, e := manifest.Open(d)
	want(t, "manifest.Open", e, api.OK)
	var edit manifest.Edit
	for i, x := range tables {
		text, e := table.Build(x.list)
		want(t, "Build", e, api.OK)
		o, e := open(i+1, x.level, text)
		want(t, "open", e, api.OK)
		edit.Add = append(edit.Add, o.File)
		want(t, "Create", d.Create(nameOf(i+1)), api.OK)
		want(t, "Append", d.Append(nameOf(i+1), text), api.OK)
		want(t, "Sync", d.Sync(nameOf(i+1)), api.OK)
	}
	edit.Next = len(tables) + 1
	want(t, "manifest's Commit", m.Commit(edit), api.OK)
	h := has{}
	for level := manifest.Levels - 1; level >= 0; level-- {
		for _, x := range tables {
			if x.level == level {
				h = h.after(x.list)
			}
		}
	}
	return d, h
}

// The examples

func TestExamples(t *testing.T) {
	d := disk.New()
	s := opens(t, "a new one", d)
	tells(t, "a new one", s, has{})
	h := writes(t, s, nil, entriesOf("a 1 b 2"), entriesOf("a - c 3"))
	if v, ok := s.Get("a"); ok || v != "" {
		t.Errorf("Get(a): %q, %v", v, ok)
	}
	if v, ok := s.Get("b"); !ok || v != "2" {
		t.Errorf("Get(b): %q, %v", v, ok)
	}
	tells(t, "two batches", s, h)
	if n := s.Fresh(); n != 3 {
		t.Errorf("Fresh: %d", n)
	}
	want(t, "Flush", s.Flush(), api.OK)
	if s.Fresh() != 0 || len(s.Files()) != 1 {
		t.Errorf("flushed: Fresh %d, Files %v", s.Fresh(), s.Files())
	}
	tells(t, "flushed", s, h)
	writes(t, s, h, entriesOf("b 9"))
	d.Crash(nil)
	d.Start()
	s = opens(t, "the power came back", d)
	tells(t, "the power came back", s, has{"b": "9", "c": "3"})
	want(t, "b ahead of a", s.Write(entriesOf("b 1 a 2")), api.ErrArg)
	want(t, "a long key", s.Write([]table.Entry{{Key: strings.Repeat("k", 129)}}), api.ErrLong)
	tells(t, "behind wrong ones", s, has{"b": "9", "c": "3"})
}

// Twelve flushes: level 0 has no more than three tables when Compact tells false, and what the store has is the same.
func TestTwelveFlushes(t *testing.T) {
	d := disk.New()
	s := opens(t, "a new one", d)
	var h has
	for i := range 12 {
		h = writes(t, s, h, numbered(i*3, 20, 2, 5), gone(numbered(i, 3, 1, 0)))
		want(t, "Flush", s.Flush(), api.OK)
		if s.Fresh() != 0 {
			t.Errorf("flushed, %d are fresh", s.Fresh())
		}
		rightFiles(t, "flushed", s)
	}
	tells(t, "twelve flushes", s, h)
	if n := counts(s); n[0] != 12 {
		t.Fatalf("%v tables", n)
	}
	if n := compacts(t, "twelve flushes", s); n == 0 {
		t.Errorf("nothing was put together")
	}
	if n := counts(s); n[0] > 3 {
		t.Errorf("%v tables", n)
	}
	tells(t, "compacted", s, h)
	keeps(t, "compacted", d, h)
}

// P9.1: Open

func TestOpenErrors(t *testing.T) {
	if s, e := Open(nil); s != nil || e != api.ErrNil {
		t.Errorf("Open of no disk: %v, error %d", s, e)
	}
	off, full, both := disk.New(), disk.New(), disk.New()
	off.Crash(nil)
	fill(t, full, api.MaxFiles)
	full.Fuse(1)
	want(t, "Create", both.Create("manifest.x"), api.OK)
	fill(t, both, api.MaxFiles)
	offToo := both.Twin()
	offToo.Crash(nil)
	for _, x := range []struct {
		what   string
		d      *disk.Disk
		wanted api.Errno
	}{{"no power", off, api.ErrDown}, {"no files left", full, api.ErrFull}, {"no files left, and bad ones", both, api.ErrFull}, {"no power, no files left, bad ones", offToo, api.ErrDown}} {
		before := x.d.Twin()
		if s, e := Open(x.d); s != nil || e != x.wanted || !disk.Same(x.d, before) {
			t.Errorf("Open, %s: error %d, or something has changed", x.what, e)
		}
	}
}

// A store is opened where there is neither room nor a file to be had, if it was there.
func TestOpenFull(t *testing.T) {
	d := disk.New()
	d.Room(0)
	s := opens(t, "a new one without room", d)
	tells(t, "a new one without room", s, has{})
	want(t, "Write", s.Write(entriesOf("a 1")), api.ErrFull)
	d.Room(-1)
	h := writes(t, s, nil, entriesOf("a 1 b 2"))
	want(t, "Flush", s.Flush(), api.OK)
	h = writes(t, s, h, entriesOf("b 3 c 4"))
	fill(t, d, api.MaxFiles)
	d.Room(0)
	s = opens(t, "a full disk", d)
	tells(t, "a full disk", s, h)
	if s.Fresh() != 2 || len(s.Files()) != 1 {
		t.Errorf("a full disk: Fresh %d, Files %v", s.Fresh(), s.Files())
	}
}

// Files that are none of a store's stay as they are, with their tails, whatever a store does.
func TestOtherFiles(t *testing.T) {
	d := disk.New()
	for i, name := range []string{"log", "table", "manifest", "logs.1", "log-1", "tables.1", "manifests.main", "xlog.1", "a.table.1", ".log", "0", "-"} {
		want(t, "Create", d.Create(name), api.OK)
		want(t, "Append", d.Append(name, "synced"), api.OK)
		if i%2 == 0 {
			want(t, "Sync", d.Sync(name), api.OK)
		}
		want(t, "Append", d.Append(name, "tail"), api.OK)
	}
	before := d.Twin()
	var h has
	for i := range 6 {
		s := opens(t, "opened", d)
		tells(t, "opened", s, h)
		h = writes(t, s, h, numbered(i, 40, 3, 100), numbered(i, 30, 1, 4000), numbered(i, 2, 1, 7))
		want(t, "Flush", s.Flush(), api.OK)
		h = writes(t, s, h, gone(numbered(i, 20, 2, 0)))
		if i == 3 {
			compacts(t, "compacted", s)
		}
		d.Room(d.Used())
		want(t, "Write, no room", s.Write(numbered(0, 1, 1, 3)), api.ErrFull)
		d.Room(-1)
		tells(t, "at last", s, h)
		if !disk.Same(others(d), before) {
			t.Fatalf("other files have changed")
		}
	}
}

// spoiled are disks whose files no store left behind.
func spoiled(t *testing.T) map[string]*disk.Disk {
	good := disk.New()
	s := opens(t, "a good one", good)
	writes(t, s, nil, entriesOf("a 1 b 2"))
	want(t, "Flush", s.Flush(), api.OK)
	writes(t, s, nil, entriesOf("c 3"))
	want(t, "Flush", s.Flush(), api.OK)
	writes(t, s, nil, entriesOf("a 4 d 5"))
	disks := map[string]*disk.Disk{}
	spoil := func(what string, how func(d *disk.Disk) api.Errno) {
		d := good.Twin()
		want(t, what, how(d), api.OK)
		disks[what] = d
	}
	swap := func(d *disk.Disk, name string, turn func(string) string) api.Errno {
		text, e := d.Read(name)
		want(t, "Read "+name, e, api.OK)
		want(t, "Remove "+name, d.Remove(name), api.OK)
		want(t, "Create "+name, d.Create(name), api.OK)
		return d.Append(name, turn(text))
	}
	for _, name := range []string{"table.", "table.0", "table.01", "table.-1", "table.x", "table.1x", "table.1.1", "table.99999999999999999999", "log.x", "log.", "manifest.x", "manifest."} {
		spoil("a file "+name, func(d *disk.Disk) api.Errno { return d.Create(name) })
	}
	for _, name := range []string{"table.1", "table.2"} {
		spoil("no "+name, func(d *disk.Disk) api.Errno { return d.Remove(name) })
		spoil("nothing in "+name, func(d *disk.Disk) api.Errno { return swap(d, name, func(string) string { return "" }) })
		spoil("a byte cut off "+name, func(d *disk.Disk) api.Errno { return swap(d, name, func(s string) string { return s[:len(s)-1] }) })
		spoil("a byte changed in "+name, func(d *disk.Disk) api.Errno {
			return swap(d, name, func(s string) string { return s[:9] + string(s[9]^1) + s[10:] })
		})
		spoil("another table as "+name, func(d *disk.Disk) api.Errno {
			text, _ := table.Build(entriesOf("a 1 b 2 c 3"))
			return swap(d, name, func(string) string { return text })
		})
		spoil("another table of as many entries as "+name, func(d *disk.Disk) api.Errno {
			text, _ := table.Build(entriesOf("x 1")[:1])
			if name == "table.1" {
				text, _ = table.Build(entriesOf("a 1 x 2"))
			}
			return swap(d, name, func(string) string { return text })
		})
	}
	spoil("a manifest changed", func(d *disk.Disk) api.Errno {
		return swap(d, "manifest.main", func(s string) string { return s + "x" })
	})
	spoil("no manifest", func(d *disk.Disk) api.Errno { return d.Remove("manifest.main") })
	spoil("no log", func(d *disk.Disk) api.Errno {
		for _, name := range d.List() {
			if strings.HasPrefix(name, "log.") {
				d.Remove(name)
			}
		}
		return api.OK
	})
	spoil("a log that went on too far", func(d *disk.Disk) api.Errno {
		w, _, _ := wal.Open(d, "log")
		text, _ := table.Build(nil)
		for range 3 {
			w.Append(text)
		}
		return w.Drop(w.Last())
	})
	for what, body := range map[string]string{"nothing": "", "a word": "word", "noughts": strings.Repeat("\x00", 50)} {
		spoil("a record of "+what, func(d *disk.Disk) api.Errno {
			w, _, _ := wal.Open(d, "log")
			w.Append(body)
			return w.Sync()
		})
	}
	return disks
}

func TestOpenBad(t *testing.T) {
	for what, d := range spoiled(t) {
		d.Fuse(9)
		before := d.Twin()
		if s, e := Open(d); s != nil || e != api.ErrBad || !disk.Same(d, before) {
			t.Errorf("Open, %s: error %d, or something has changed", what, e)
		}
		d.Crash(nil)
		if s, e := Open(d); s != nil || e != api.ErrDown {
			t.Errorf("Open, %s, without power: error %d", what, e)
		}
	}
}

// Whatever stands in the files of a store, Open ends, and makes a store or tells an error.
func TestOpenAnything(t *testing.T) {
	t.Parallel()
	good := disk.New()
	s := opens(t, "a good one", good)
	writes(t, s, nil, entriesOf("a 1 b 2"))
	want(t, "Flush", s.Flush(), api.OK)
	writes(t, s, nil, entriesOf("a 4 d 5"))
	for _, name := range good.List() {
		text, _ := good.Read(name)
		for i := range len(text) {
			for _, how := range []string{text[:i], text[:i] + string(text[i]+1) + text[i+1:], text + text[i:]} {
				d := good.Twin()
				d.Remove(name)
				d.Create(name)
				d.Append(name, how)
				d.Sync(name)
				s, e := Open(d)
				if (s == nil) == (e == api.OK) || e != api.OK && e != api.ErrBad {
					t.Fatalf("%s at %d: error %d", name, i, e)
				}
				if e == api.OK {
					rightFiles(t, "spoiled", s)
					want(t, "Write", s.Write(entriesOf("z 9")), api.OK)
				}
			}
		}
	}
}

// Of a disk whose numbers are at their end no more can be put into tables; all else goes on.
func TestNumbersAtTheirEnd(t *testing.T) {
	for what, edit := range map[string]manifest.Edit{"of tables": {Next: 1 << 40}, "of records": {Log: 1 << 40}} {
		d := disk.New()
		want(t, "Create", d.Create(fmt.Sprintf("log.%019d", edit.Log+1)), api.OK)
		m, _ := manifest.Open(d)
		want(t, "Commit", m.Commit(edit), api.OK)
		s := opens(t, what, d)
		h := writes(t, s, nil, entriesOf("a 1 b 2"), numbered(0, 64, 1, 900), numbered(64, 64, 1, 900))
		want(t, "Flush", s.Flush(), api.ErrFull)
		want(t, "Write", s.Write(long(90000)), api.ErrFull)
		tells(t, what, s, h)
		rightFiles(t, what, s)
		tells(t, what+", opened again", opens(t, what, d), h)
	}
}

// P9.2: Write

// long is a batch of just so many bytes, keys and values together.
func long(bytes int) []table.Entry {
	var l []table.Entry
	for bytes > 0 {
		n := min(bytes, 16000)
		l = append(l, table.Entry{Key: fmt.Sprintf("%03d", len(l)), Value: strings.Repeat("v", n-3)})
		bytes -= n
	}
	return l
}

func TestWriteErrors(t *testing.T) {
	key, value := strings.Repeat("k", api.MaxKey), strings.Repeat("v", api.MaxCell)
	rows := []struct {
		what   string
		l      []table.Entry
		wanted api.Errno
	}{
		{"none", nil, api.OK},
		{"one", entriesOf("a 1"), api.OK},
		{"64", numbered(0, 64, 1, 9), api.OK},
		{"65", numbered(0, 65, 1, 9), api.ErrLong},
		{"5000", numbered(0, 5000, 1, 9), api.ErrLong},
		{"65 that are wrong", make([]table.Entry, 65), api.ErrLong},
		{"a key of no bytes", []table.Entry{{Value: "v"}}, api.ErrArg},
		{"a key of one byte", []table.Entry{{Key: "\x00", Value: "v"}}, api.OK},
		{"a key of MaxKey bytes", []table.Entry{{Key: key, Value: "v"}}, api.OK},
		{"one byte more", []table.Entry{{Key: key + "k", Value: "v"}}, api.ErrLong},
		{"one byte more, gone", []table.Entry{{Key: key + "k", Gone: true}}, api.ErrLong},
		{"a value of no bytes", []table.Entry{{Key: "a"}}, api.OK},
		{"a value of MaxCell bytes", []table.Entry{{Key: "a", Value: value}}, api.OK},
		{"one byte more of it", []table.Entry{{Key: "a", Value: value + "v"}}, api.ErrLong},
		{"gone, with a value", []table.Entry{{Key: "a", Value: "v", Gone: true}}, api.ErrArg},
		{"gone, with a long value", []table.Entry{{Key: "a", Value: value + "v", Gone: true}}, api.ErrLong},
		{"they fall", entriesOf("b 1 a 2"), api.ErrArg},
		{"they fall at the end", entriesOf("a 1 b 2 c 3 bb 4"), api.ErrArg},
		{"a key twice", entriesOf("a 1 a 2"), api.ErrArg},
		{"a key twice, gone", entriesOf("a 1 a -"), api.ErrArg},
		{"byte by byte", entriesOf("a 1 aa 2 ab 3 b 4 \x7f 5 \x80 6 \xff 7"), api.OK},
		{"they fall, and a long key", []table.Entry{{Key: "b"}, {Key: "a"}, {Key: key + "k"}}, api.ErrLong},
		{"no key, and a long value", []table.Entry{{}, {Key: "a", Value: value + "v"}}, api.ErrLong},
		{"Bytes bytes", long(table.Bytes), api.OK},
		{"Bytes bytes and one", long(table.Bytes + 1), api.ErrArg},
		{"64 of MaxCell bytes", numbered(0, 64, 1, api.MaxCell), api.ErrArg},
		{"64 of MaxCell bytes, and one more", numbered(0, 64, 1, api.MaxCell+1), api.ErrLong},
	}
	d := disk.New()
	s := opens(t, "a new one", d)
	h := writes(t, s, nil, entriesOf("a 0 z 9"))
	var none *Store
	dead, off := opens(t, "another one", disk.New()), disk.New()
	dead.disk.Fuse(1)
	want(t, "Write", dead.Write(nil), api.ErrDown)
	dead.disk.Start()
	down := opens(t, "without power", off)
	off.Crash(nil)
	crowded := disk.New()
	full := opens(t, "without room", crowded)
	crowded.Room(0)
	for _, x := range rows {
		files := d.Twin()
		want(t, x.what, s.Write(x.l), x.wanted)
		if x.wanted == api.OK {
			h = h.after(x.l)
		} else if !disk.Same(files, d) {
			t.Errorf("%s: the disk has changed", x.what)
		}
		tells(t, x.what, s, h)
		want(t, x.what+", no store", none.Write(x.l), api.ErrNil)
		want(t, x.what+", not made", new(Store).Write(x.l), api.ErrNil)
		downs, fulls := x.wanted, x.wanted
		if x.wanted == api.OK {
			downs, fulls = api.ErrDown, api.ErrFull
		}
		want(t, x.what+", dead", dead.Write(x.l), downs)
		want(t, x.what+", without power", down.Write(x.l), downs)
		want(t, x.what+", without room", full.Write(x.l), fulls)
	}
	keeps(t, "all of them", d, h)
	crowded.Crash(nil)
	want(t, "neither room nor power", full.Write(nil), api.ErrDown)
}

// A batch gives keys their values, and takes keys away, that are there or not, in memory or in tables of whatever level.
func TestBatches(t *testing.T) {
	d := disk.New()
	s := opens(t, "a new one", d)
	var h has
	for i, words := range []string{
		"a 1", "a 2", "a -", "a -", "b -", "a 3", "a 4 b 5 c 6", "b - d 7", "b 8", "", "a - b - c - d -", "e -", "a 9",
	} {
		h = writes(t, s, h, entriesOf(words))
		tells(t, words, s, h)
		if i%3 == 2 {
			want(t, "Flush", s.Flush(), api.OK)
			tells(t, words+", flushed", s, h)
		}
		keeps(t, words, d, h)
	}
}

// A key that is gone is gone, whatever older table still has it, and stays so whatever is put together.
func TestGoneAboveOlderTables(t *testing.T) {
	rows := []laid{{3, entriesOf("a 1 b 1 m 1")}, {2, entriesOf("b 2 c 2")}, {1, entriesOf("c 3 d 3")}, {0, entriesOf("d 4 e 4")}, {0, entriesOf("e 5 f 5")}}
	d, h := lays(t, rows...)
	s := opens(t, "laid", d)
	tells(t, "laid", s, h)
	if n := counts(s); n != [4]int{2, 1, 1, 1} {
		t.Fatalf("laid: %v tables", n)
	}
	for _, key := range []string{"a", "b", "c", "d", "e", "f", "m", "x"} {
		h = writes(t, s, h, []table.Entry{{Key: key, Gone: true}})
		tells(t, key+" gone", s, h)
		keeps(t, key+" gone", d, h)
		want(t, "Flush", s.Flush(), api.OK)
		tells(t, key+" gone, flushed", s, h)
	}
	compacts(t, "all gone", s)
	tells(t, "all gone", s, has{})
	h = writes(t, s, h, entriesOf("b 7 d 7"))
	tells(t, "back again", s, h)
	keeps(t, "back again", d, h)
}

// Tables of all levels that say that a key is gone, above and below ones that have it.
func TestGoneInEachLevel(t *testing.T) {
	for upper := range 4 {
		for lower := range 4 {
			rows := []laid{{lower, entriesOf("a 1 b 1 c 1")}, {upper, entriesOf("a 2 b - d -")}}
			if lower < upper {
				rows[0], rows[1] = rows[1], rows[0]
			}
			if lower == upper && upper > 0 {
				continue
			}
			d, h := lays(t, rows...)
			what := fmt.Sprintf("levels %d and %d", upper, lower)
			s := opens(t, what, d)
			tells(t, what, s, h)
			for i := range 5 {
				h = writes(t, s, h, entriesOf(fmt.Sprintf("b - e%d -", i)))
				want(t, "Flush", s.Flush(), api.OK)
			}
			h = writes(t, s, h, entriesOf("c -"))
			compacts(t, what, s)
			tells(t, what+", compacted", s, h)
			keeps(t, what, d, h)
		}
	}
}

// P9.3: Get, From, View

// What From and View give tells what there was, whatever is written, flushed and compacted meanwhile.
func TestViewsStay(t *testing.T) {
	t.Parallel()
	d := disk.New()
	s := opens(t, "a new one", d)
	type seen struct {
		v        *View
		seq, mid iter.Seq2[string, string]
		had      has
	}
	var l []seen
	h := has{}
	for i := range 40 {
		l = append(l, seen{s.View(), s.From(""), s.From("k000050"), h})
		h = writes(t, s, h, numbered(i*2, 30, 3, 50*i), gone(numbered(i, 9, 4, 0)))
		switch i % 5 {
		case 1:
			want(t, "Flush", s.Flush(), api.OK)
		case 3:
			_, e := s.Compact()
			want(t, "Compact", e, api.OK)
		}
	}
	compacts(t, "at last", s)
	d.Fuse(1)
	want(t, "Write", s.Write(entriesOf("a 1")), api.ErrDown)
	for i, x := range l {
		what := fmt.Sprint("ahead of ", i)
		tells(t, what, x.v, x.had)
		for range 2 {
			ranges(t, what, x.seq, x.had, "")
			ranges(t, what, x.mid, x.had, "k000050")
		}
	}
	tells(t, "dead", s, h)
}

// What is gone over may be left early, gone over again, gone over within itself, and written behind while it is gone over.
func TestGoneOverAnyhow(t *testing.T) {
	d, h := lays(t, laid{3, numbered(0, 9, 2, 3)}, laid{3, numbered(20, 9, 2, 3)}, laid{2, numbered(1, 9, 5, 3)}, laid{1, numbered(2, 9, 3, 3)})
	s := opens(t, "laid", d)
	h = writes(t, s, h, numbered(0, 10, 2, 9))
	for range 3 {
		want(t, "Flush", s.Flush(), api.OK)
		h = writes(t, s, h, numbered(10, 30, 2, 4), gone(numbered(0, 5, 3, 0)))
	}
	seq := s.From("k000003")
	for stop := range len(h) {
		n := 0
		for range seq {
			if n == stop {
				break
			}
			n++
		}
		ranges(t, "behind leaving it", seq, h, "k000003")
	}
	n := 0
	for range seq {
		n++
		ranges(t, "within itself", seq, h, "k000003")
	}
	if n != len(h.from("k000003")) {
		t.Errorf("%d keys", n)
	}
	had, v := h, s.View()
	n = 0
	for key := range s.From("") {
		n++
		h = writes(t, s, h, []table.Entry{{Key: key, Gone: true}, {Key: key + "x", Value: "new"}})
		if n%7 == 0 {
			want(t, "Flush", s.Flush(), api.OK)
			compacts(t, "meanwhile", s)
		}
	}
	if n != len(had) {
		t.Errorf("%d keys, not %d", n, len(had))
	}
	tells(t, "the store", s, h)
	tells(t, "the view", v, had)
	ranges(t, "From ahead of all that", seq, had, "k000003")
}

// A panic of whoever ranges goes on to him, and leaves the store as it was.
func TestPanicWhileRanging(t *testing.T) {
	s := opens(t, "a new one", disk.New())
	h := writes(t, s, nil, numbered(0, 30, 1, 9))
	want(t, "Flush", s.Flush(), api.OK)
	h = writes(t, s, h, numbered(10, 30, 1, 9))
	func() {
		defer func() {
			if recover() != "mine" {
				t.Errorf("the panic did not go on")
			}
		}()
		for range s.From("") {
			panic("mine")
		}
	}()
	tells(t, "behind a panic", s, h)
}

// P9.4: Flush, Compact, Fresh, Files

func TestFresh(t *testing.T) {
	d := disk.New()
	s := opens(t, "a new one", d)
	for i, x := range []struct {
		words string
		fresh int
	}{{"", 0}, {"a 1", 1}, {"a 2", 1}, {"a -", 1}, {"b - c 3", 3}, {"b 4", 3}, {"a 5 b - c -", 3}} {
		writes(t, s, nil, entriesOf(x.words))
		if s.Fresh() != x.fresh || opens(t, "opened again", again(d)).Fresh() != x.fresh {
			t.Errorf("%d: Fresh %d, not %d", i, s.Fresh(), x.fresh)
		}
	}
	want(t, "Flush", s.Flush(), api.OK)
	if s.Fresh() != 0 || opens(t, "opened again", again(d)).Fresh() != 0 {
		t.Errorf("flushed: %d", s.Fresh())
	}
	tells(t, "flushed", s, has{"a": "5"})
	if l := s.Files(); len(l) != 1 || l[0] != (manifest.File{N: 1, Count: 1, First: "a", Last: "a"}) {
		t.Errorf("Files: %v", l)
	}
	for range 3 {
		want(t, "Flush of nothing", s.Flush(), api.OK)
	}
	if l := s.Files(); len(l) != 1 {
		t.Errorf("Files behind empty flushes: %v", l)
	}
	writes(t, s, nil, nil, nil)
	want(t, "Flush of empty batches", s.Flush(), api.OK)
	if l := s.Files(); len(l) != 1 {
		t.Errorf("Files behind empty batches: %v", l)
	}
}

// However often it is flushed, there is place for another table.
func TestManyFlushes(t *testing.T) {
	t.Parallel()
	d := disk.New()
	s := opens(t, "a new one", d)
	var h has
	for i := range 3 * manifest.Most / 2 {
		h = writes(t, s, h, numbered(i*7919%1000, 2, 1, 3))
		want(t, fmt.Sprint("Flush ", i), s.Flush(), api.OK)
	}
	rightFiles(t, "many flushes", s)
	tells(t, "many flushes", s, h)
	keeps(t, "many flushes", d, h)
}

// However much is written, there are tables of each level then, a Compact comes to have nothing left to do, and all is there.
func TestEachLevel(t *testing.T) {
	t.Parallel()
	for what, key := range map[string]func(i int) int{
		"rising":  func(i int) int { return i * 40 },
		"falling": func(i int) int { return (200 - i) * 40 },
		"mixed":   func(i int) int { return i * 7919 % 9973 },
		"again":   func(i int) int { return i % 7 * 40 },
	} {
		t.Run(what, func(t *testing.T) { t.Parallel(); fills(t, what, key) })
	}
}

// fills writes much, with keys by a rule.
func fills(t *testing.T, what string, key func(i int) int) {
	d := disk.New()
	s := opens(t, what, d)
	var h has
	var seen [manifest.Levels]bool
	for i := range 200 {
		h = writes(t, s, h, numbered(key(i), 40, 1, 800+i), gone(numbered(key(i/2), 5, 3, 0)))
		for level, n := range counts(s) {
			seen[level] = seen[level] || n > 0
		}
	}
	rightFiles(t, what, s)
	tells(t, what, s, h)
	want(t, "Flush", s.Flush(), api.OK)
	compacts(t, what, s)
	n := counts(s)
	if what != "again" && seen != [manifest.Levels]bool{true, true, true, true} {
		t.Errorf("%s: tables of the levels %v, at last %v", what, seen, n)
	}
	if most := 10 + d.Used()*4/full; len(s.Files()) > most {
		t.Errorf("%s: %v tables of %d bytes in all", what, n, d.Used())
	}
	tells(t, what+", compacted", s, h)
	keeps(t, what, d, h)
}

// Rising keys, or falling ones, that are flushed one by one do not make level upon level of small tables.
func TestSmallTables(t *testing.T) {
	t.Parallel()
	for what, key := range map[string]func(i int) int{
		"rising":  func(i int) int { return i },
		"falling": func(i int) int { return 1000 - i },
	} {
		t.Run(what, func(t *testing.T) {
			t.Parallel()
			d := disk.New()
			s := opens(t, "a new one", d)
			var h has
			for i := range 700 {
				h = writes(t, s, h, numbered(key(i), 1, 1, 2000))
				want(t, "Flush", s.Flush(), api.OK)
				compacts(t, what, s)
			}
			if n := len(s.Files()); n > 20 {
				t.Errorf("%v tables", counts(s))
			}
			tells(t, what, s, h)
			h = writes(t, s, h, gone(numbered(key(0), 64, 1, 0)), gone(numbered(key(99), 64, 1, 0)))
			keeps(t, what, d, h)
		})
	}
}

// What old values took is given back: in a room of limited size the same keys are written for ever.
func TestRoomIsGivenBack(t *testing.T) {
	t.Parallel()
	d := disk.New()
	s := opens(t, "a new one", d)
	d.Room(600000)
	var h has
	for i := range 3000 {
		l := numbered(i*31%60, 4, 15, i%2000)
		if i%3 == 0 {
			l = gone(l)
		}
		h = writes(t, s, h, l)
	}
	tells(t, "in little room", s, h)
	for range 30000 {
		h = writes(t, s, h, nil)
	}
	tells(t, "in little room, with empty batches", s, h)
	keeps(t, "in little room", d, h)
	if n := len(d.List()); n > 20 {
		t.Errorf("%d files", n)
	}
}

// Where there is no room for a batch, but would be if what is fresh stood in tables, it is moved there.
func TestWriteMakesRoom(t *testing.T) {
	d := disk.New()
	s := opens(t, "a new one", d)
	var h has
	for i := range 30 {
		h = writes(t, s, h, numbered(i%2, 1, 1, 1000+i))
	}
	if len(s.Files()) != 0 {
		t.Fatalf("there are tables: %v", s.Files())
	}
	d.Room(d.Used() + 3000)
	h = writes(t, s, h, numbered(2, 2, 1, 4000))
	tells(t, "in little room", s, h)
	d.Room(d.Used() + 9)
	want(t, "Write", s.Write(numbered(2, 2, 1, 4000)), api.ErrFull)
	tells(t, "in no room", s, h)
	keeps(t, "in no room", d, h)
}

// What is fresh is moved when it is much, and not sooner.
func TestFreshStaysTillItIsMuch(t *testing.T) {
	s := opens(t, "a new one", disk.New())
	most, moved := 0, 0
	for i := range 1000 {
		fresh := s.Fresh()
		writes(t, s, nil, numbered(i, 1, 1, 1000))
		most = max(most, s.Fresh())
		if s.Fresh() <= fresh {
			moved++
		}
	}
	if most < 50 || most > 100 || moved < 10 || moved > 20 {
		t.Errorf("at most %d are fresh; they were moved %d times", most, moved)
	}
}

// Where nothing is fresh, or to be put together, there is no need of room, but of the power.
func TestNothingToDo(t *testing.T) {
	d, _ := lays(t, laid{0, entriesOf("a 1")}, laid{1, entriesOf("a 2")})
	s := opens(t, "laid", d)
	fill(t, d, api.MaxFiles)
	d.Room(0)
	before := d.Twin()
	want(t, "Flush", s.Flush(), api.OK)
	if more, e := s.Compact(); more || e != api.OK {
		t.Errorf("Compact: %v, error %d", more, e)
	}
	if !disk.Same(before, d) {
		t.Errorf("the disk has changed")
	}
	for what, call := range map[string]func(s *Store) api.Errno{"Flush": flushing, "Compact": compacting} {
		d := before.Twin()
		s := opens(t, "laid", d)
		d.Crash(nil)
		want(t, what+" without power", call(s), api.ErrDown)
		d.Start()
		want(t, what+", dead", call(s), api.ErrDown)
	}
}

// Tables of the next level that are not small are put together with those above if they have a key between their ends, be it but the first or the last one; else they stay.
func TestCompactAtTheEnds(t *testing.T) {
	t.Parallel()
	left, right := numbered(10, 20, 1, 16000), numbered(50, 20, 1, 16000)
	for _, first := range []int{5, 9, 10, 20, 29, 30, 40, 49, 50, 60, 69, 70} {
		for _, last := range []int{9, 10, 11, 29, 30, 49, 50, 69, 70} {
			if first > last {
				continue
			}
			what := fmt.Sprintf("%d to %d", first, last)
			d, h := lays(t, laid{1, left}, laid{1, right},
				laid{0, numbered(first, 1, 1, 1)}, laid{0, numbered(last, 1, 1, 2)}, laid{0, gone(numbered(first, 1, 1, 0))}, laid{0, numbered(first, 1, 1, 3)})
			s := opens(t, what, d)
			if more, e := s.Compact(); !more || e != api.OK {
				t.Fatalf("%s: Compact: %v, error %d", what, more, e)
			}
			tells(t, what, s, h)
			rightFiles(t, what, s)
			numbers := func(n int) bool {
				return slices.ContainsFunc(s.Files(), func(f manifest.File) bool { return f.N == n })
			}
			if meets := first <= 29 && last >= 10; numbers(1) == meets {
				t.Errorf("%s: the left one is there: %v", what, !meets)
			}
			if meets := first <= 69 && last >= 50; numbers(2) == meets {
				t.Errorf("%s: the right one is there: %v", what, !meets)
			}
		}
	}
}

// Files are by rising numbers; Compact puts four tables of level 0 into the next one.
func TestCompactOfLevelZero(t *testing.T) {
	rows := []laid{{1, entriesOf("b 0 y 0")}, {0, entriesOf("a 1 b 1")}, {0, entriesOf("b 2 c 2")}, {0, entriesOf("a - c 3")}, {0, entriesOf("x 4")}}
	d, h := lays(t, rows[:4]...)
	s := opens(t, "three", d)
	for range 2 {
		if more, e := s.Compact(); more || e != api.OK {
			t.Errorf("Compact of three: %v, error %d", more, e)
		}
	}
	tells(t, "three", s, h)
	d, h = lays(t, rows...)
	s = opens(t, "four", d)
	if more, e := s.Compact(); !more || e != api.OK {
		t.Errorf("Compact of four: %v, error %d", more, e)
	}
	wanted := []manifest.File{{N: 6, Level: 1, Count: 4, First: "b", Last: "y"}}
	if l := s.Files(); !slices.Equal(l, wanted) {
		t.Errorf("Files: %v", l)
	}
	tells(t, "four", s, h)
	rightFiles(t, "four", s)
	if more, e := s.Compact(); more || e != api.OK {
		t.Errorf("Compact again: %v, error %d", more, e)
	}
	keeps(t, "four", d, h)
}

// What all the tables of a compaction had may be gone: then there is none behind it.
func TestCompactToNothing(t *testing.T) {
	d, h := lays(t, laid{1, entriesOf("a 1 b 1")}, laid{0, entriesOf("a -")}, laid{0, entriesOf("b -")}, laid{0, entriesOf("c -")}, laid{0, entriesOf("a - d -")})
	s := opens(t, "all gone", d)
	tells(t, "all gone", s, h)
	compacts(t, "all gone", s)
	if l := s.Files(); len(l) != 0 || len(h) != 0 {
		t.Errorf("Files: %v", l)
	}
	h = writes(t, s, h, entriesOf("b 2"))
	keeps(t, "then", d, h)
}

// P9.5

func TestNoStore(t *testing.T) {
	var none *Store
	for what, s := range map[string]*Store{"none": none, "not made": {}} {
		want(t, "Write, "+what, s.Write(nil), api.ErrNil)
		want(t, "Flush, "+what, s.Flush(), api.ErrNil)
		if more, e := s.Compact(); more || e != api.ErrNil {
			t.Errorf("Compact, %s: %v, error %d", what, more, e)
		}
		if s.Fresh() != 0 || len(s.Files()) != 0 {
			t.Errorf("%s: Fresh %d, Files %v", what, s.Fresh(), s.Files())
		}
		tells(t, what, s, has{})
		tells(t, what+", its view", s.View(), has{})
	}
	var v *View
	tells(t, "no view", v, has{})
	tells(t, "a view that is not made", new(View), has{})
}

// A dead store tells what it had, and nothing but ErrDown, whether the power has come back or not.
func TestDead(t *testing.T) {
	for what, die := range map[string]func(s *Store) api.Errno{
		"Write":     func(s *Store) api.Errno { return s.Write(entriesOf("x 1")) },
		"big Write": func(s *Store) api.Errno { return s.Write(long(100000)) },
		"Flush":     func(s *Store) api.Errno { return s.Flush() },
		"Compact":   func(s *Store) api.Errno { _, e := s.Compact(); return e },
	} {
		for fuse := range 20 {
			d, h := lays(t, laid{1, entriesOf("a 1 b 1")}, laid{0, entriesOf("a 2")}, laid{0, entriesOf("b 3")}, laid{0, entriesOf("c 4")}, laid{0, entriesOf("a - d 5")})
			s := opens(t, what, d)
			h = writes(t, s, h, entriesOf("e 6"))
			fresh, files, v := s.Fresh(), s.Files(), s.View()
			d.Fuse(fuse + 1)
			e := die(s)
			if (e == api.ErrDown) != d.Down() {
				t.Fatalf("%s: error %d, and the power is off: %v", what, e, d.Down())
			}
			if e == api.OK {
				break
			}
			for _, on := range []bool{false, true} {
				if on {
					d.Start()
				}
				for other, call := range map[string]func() api.Errno{
					"Write": func() api.Errno { return s.Write(nil) }, "Flush": s.Flush,
					"Compact": func() api.Errno { _, e := s.Compact(); return e },
				} {
					before := d.Twin()
					want(t, other+" behind a deadly "+what, call(), api.ErrDown)
					if !disk.Same(before, d) {
						t.Errorf("a dead one's %s changes the disk", other)
					}
				}
				tells(t, "dead by "+what, s, h)
				tells(t, "dead by "+what+", a view", s.View(), h)
				tells(t, "dead by "+what+", an older view", v, h)
				if s.Fresh() != fresh || !slices.Equal(s.Files(), files) {
					t.Errorf("dead by %s: Fresh %d, Files %v; not %d, %v", what, s.Fresh(), s.Files(), fresh, files)
				}
			}
		}
	}
}

// A store whose power went and came back while no call of it was made has lost nothing, and goes on.
func TestPowerBetweenCalls(t *testing.T) {
	d := disk.New()
	s := opens(t, "a new one", d)
	var h has
	for i := range 30 {
		h = writes(t, s, h, numbered(i, 20, 2, 300))
		d.Crash(nil)
		tells(t, "while it is off", s, h)
		d.Start()
		if i%9 == 8 {
			want(t, "Flush", s.Flush(), api.OK)
			d.Crash(nil)
			d.Start()
			_, e := s.Compact()
			want(t, "Compact", e, api.OK)
		}
		tells(t, "on again", s, h)
	}
	keeps(t, "on again", d, h)
}

// Two stores of two disks do not know one another. Of one disk the one that another one wrote behind is dead.
func TestTwoStores(t *testing.T) {
	d, x := disk.New(), disk.New()
	s, r := opens(t, "one", d), opens(t, "the other", x)
	h, g := writes(t, s, nil, entriesOf("a 1")), writes(t, r, nil, entriesOf("b 2"))
	x.Crash(nil)
	h = writes(t, s, h, entriesOf("c 3"))
	tells(t, "one", s, h)
	tells(t, "the other", r, g)
	want(t, "Write of the other", r.Write(nil), api.ErrDown)
	second := opens(t, "a second one", d)
	tells(t, "a second one", second, h)
	all := writes(t, second, h, numbered(0, 64, 1, 1000), numbered(9, 64, 1, 1000))
	for what, call := range map[string]func(s *Store) api.Errno{
		"Write": func(s *Store) api.Errno { return s.Write(entriesOf("z 1")) },
		"Flush": func(s *Store) api.Errno { return s.Flush() },
		"big":   func(s *Store) api.Errno { return s.Write(long(100000)) },
	} {
		first := *s
		want(t, what+" of the first one", call(&first), api.ErrDown)
		tells(t, what+" of the first one", &first, h)
	}
	tells(t, "a second one", second, all)
	keeps(t, "a second one", d, all)
}
