package wal

import (
	"math"
	"slices"
	"strconv"
	"strings"
	"testing"
	"unsafe"

	"redress/api"
	"redress/disk"
	"redress/sum"
)

// want says where a call's error is another one.
func want(t *testing.T, what string, got, wanted api.Errno) {
	t.Helper()
	if got != wanted {
		t.Errorf("%s: error %d, not %d", what, got, wanted)
	}
}

// open is a log that Open must make.
func open(t *testing.T, d *disk.Disk, name string) (*Wal, []Record) {
	t.Helper()
	w, l, e := Open(d, name)
	if w == nil || e != api.OK {
		t.Fatalf("Open(%s): error %d", name, e)
	}
	return w, l
}

// appends appends bodies, which must be the records from a number on.
func appends(t *testing.T, w *Wal, from int, bodies ...string) {
	t.Helper()
	for i, body := range bodies {
		if n, e := w.Append(body); n != from+i || e != api.OK {
			t.Fatalf("Append of %d bytes: %d, error %d, not %d", len(body), n, e, from+i)
		}
	}
}

// refuses says where an Append has another error than the one wanted, or a number beside it.
func refuses(t *testing.T, w *Wal, body string, wanted api.Errno) {
	t.Helper()
	if n, e := w.Append(body); n != 0 || e != wanted {
		t.Errorf("Append of %d bytes: %d, error %d, not %d", len(body), n, e, wanted)
	}
}

// ends says where First and Last are others.
func ends(t *testing.T, w *Wal, first, last int) {
	t.Helper()
	if w.First() != first || w.Last() != last {
		t.Errorf("First %d, Last %d; not %d, %d", w.First(), w.Last(), first, last)
	}
}

// tells says where records are others than bodies from a number on.
func tells(t *testing.T, l []Record, from int, bodies ...string) {
	t.Helper()
	same := len(l) == len(bodies)
	for i := 0; same && i < len(l); i++ {
		same = l[i] == Record{from + i, bodies[i]}
	}
	if !same {
		t.Errorf("records %s; not %d from %d on", short(l), len(bodies), from)
	}
}

// short is records to be read by somebody.
func short(l []Record) string {
	s := ""
	for _, r := range l {
		s += " (" + strconv.Itoa(r.N) + ", " + strconv.Itoa(len(r.Body)) + " bytes: " + strconv.Quote(r.Body[:min(8, len(r.Body))]) + ")"
	}
	return s + " "
}

// seen is what a log has that is opened on a twin of a disk.
func seen(t *testing.T, d *disk.Disk, name string) []Record {
	t.Helper()
	d = d.Twin()
	d.Fuse(0)
	_, l := open(t, d, name)
	return l
}

// off makes the power go, and come back.
func off(d *disk.Disk, keep ...int) *disk.Disk {
	d.Crash(keep)
	d.Start()
	return d
}

// after is a disk as a crash that keeps so much of tails would leave it.
func after(d *disk.Disk, keep ...int) *disk.Disk { return off(d.Twin(), keep...) }

// fill puts other files on a disk till it has so many in all.
func fill(t *testing.T, d *disk.Disk, files int) {
	t.Helper()
	for i := 0; len(d.List()) < files; i++ {
		if e := d.Create("other" + strconv.Itoa(i)); e != api.ErrThere {
			want(t, "Create", e, api.OK)
		}
	}
}

// ours is how many files of a log a disk has.
func ours(d *disk.Disk, name string) int {
	n := 0
	for _, f := range d.List() {
		if strings.HasPrefix(f, name+".") {
			n++
		}
	}
	return n
}

// others is what a disk has in all files but those of a log.
func others(d *disk.Disk, name string) map[string]string {
	d = d.Twin()
	d.Crash(slices.Repeat([]int{math.MaxInt}, api.MaxFiles))
	d.Start()
	m := map[string]string{}
	for _, f := range d.List() {
		if !strings.HasPrefix(f, name+".") {
			m[f], _ = d.Read(f)
		}
	}
	return m
}

// whole is a body whose frame fills a file.
func whole(c string) string { return strings.Repeat(c, Segment-8) }

func TestExamples(t *testing.T) {
	d := disk.New()
	w, l := open(t, d, "w")
	tells(t, l, 1)
	appends(t, w, 1, "a")
	want(t, "Sync", w.Sync(), api.OK)
	appends(t, w, 2, "b")
	ends(t, w, 1, 2)

	off(d)
	w, l = open(t, d, "w")
	tells(t, l, 1, "a")
	appends(t, w, 2, "c")

	want(t, "Drop(1)", w.Drop(1), api.OK)
	ends(t, w, 1, 2)
	appends(t, w, 3, strings.Repeat("x", 20000), "d")
	want(t, "Drop(3)", w.Drop(3), api.OK)
	ends(t, w, 4, 4)

	for _, x := range []struct {
		d      *disk.Disk
		name   string
		wanted api.Errno
	}{{d, "W", api.ErrArg}, {nil, "w", api.ErrNil}} {
		if w, l, e := Open(x.d, x.name); w != nil || len(l) != 0 || e != x.wanted {
			t.Errorf("Open(%s): error %d, not %d", x.name, e, x.wanted)
		}
	}
	refuses(t, w, strings.Repeat("x", 65537), api.ErrLong)
}

// P4.1

func TestLogNames(t *testing.T) {
	for c := range 256 {
		s := string([]byte{byte(c)})
		wanted := api.ErrArg
		if strings.Contains("abcdefghijklmnopqrstuvwxyz", s) {
			wanted = api.OK
		}
		for _, name := range []string{s, "a" + s, s + "a", "a" + s + "a", strings.Repeat("a", 11) + s} {
			d := disk.New()
			w, l, e := Open(d, name)
			want(t, "Open of "+strconv.Quote(name), e, wanted)
			if (w != nil) != (wanted == api.OK) || len(l) != 0 || len(others(d, name)) != 0 {
				t.Errorf("Open of %q: %v, %s, files %q", name, w != nil, short(l), d.List())
			}
		}
	}
	for n, wanted := range map[int]api.Errno{0: api.ErrArg, 1: api.OK, 11: api.OK, 12: api.OK, 13: api.ErrArg, 32: api.ErrArg, 33: api.ErrArg, 1 << 20: api.ErrArg} {
		_, _, e := Open(disk.New(), strings.Repeat("a", n))
		want(t, "Open of a name of "+strconv.Itoa(n), e, wanted)
	}
}

// Of a log with the longest name all calls are as of others: the names of its files are no longer than a disk's.
func TestLongestName(t *testing.T) {
	d, name := disk.New(), strings.Repeat("z", 12)
	w, _ := open(t, d, name)
	appends(t, w, 1, "torn", whole("b"))
	off(d, 5)
	w, l := open(t, d, name)
	tells(t, l, 1)
	appends(t, w, 1, whole("a"), whole("b"), "c")
	want(t, "Drop(2)", w.Drop(2), api.OK)
	tells(t, seen(t, d, name), 3, "c")
	want(t, "Drop(3)", w.Drop(3), api.OK)
	_, l = open(t, off(d), name)
	tells(t, l, 4)
}

func TestOpenErrors(t *testing.T) {
	off := disk.New()
	off.Crash(nil)
	full := disk.New()
	fill(t, full, api.MaxFiles)
	bad := disk.New()
	want(t, "Create", bad.Create("a.b"), api.OK)
	bad.Crash(nil)
	for _, x := range []struct {
		what   string
		d      *disk.Disk
		name   string
		wanted api.Errno
	}{
		{"no disk, and no name", nil, "", api.ErrNil},
		{"no name, and no power", off, "a.b", api.ErrArg},
		{"too long a name, and no power", off, "abcdefghijklm", api.ErrArg},
		{"no power", off, "a", api.ErrDown},
		{"files of no log, and no power", bad, "a", api.ErrDown},
		{"no name, and no room for files", full, "a1", api.ErrArg},
		{"no room for files", full, "a", api.ErrFull},
	} {
		before := x.d.Twin()
		w, l, e := Open(x.d, x.name)
		want(t, x.what, e, x.wanted)
		if w != nil || l != nil || !disk.Same(x.d, before) {
			t.Errorf("%s: something is there, or has changed", x.what)
		}
	}
}

func TestFresh(t *testing.T) {
	d := disk.New()
	fill(t, d, api.MaxFiles-1)
	d.Room(0)
	before := others(d, "w")
	w, l := open(t, d, "w")
	tells(t, l, 1)
	ends(t, w, 1, 0)
	want(t, "Sync", w.Sync(), api.OK)
	want(t, "Drop", w.Drop(9), api.OK)
	ends(t, w, 1, 0)
	refuses(t, w, "", api.ErrFull)
	d.Room(-1)
	appends(t, w, 1, "a")
	ends(t, w, 1, 1)
	if now := others(d, "w"); len(now) != len(before) {
		t.Errorf("%d other files, not %d", len(now), len(before))
	}
}

// bodies are some of all lengths about the edges, of all bytes, and some that look like frames and files.
func bodies() []string {
	all := ""
	for c := range 256 {
		all += string([]byte{byte(c)})
	}
	frame, _ := sum.Frame("a body")
	l := []string{"", "a", all, frame, frame + frame, frame[:9], strings.Repeat("\x00", 100), "", ""}
	for _, n := range []int{1000, Segment - 9, Segment - 8, Segment - 7, Segment, 40000, api.MaxRecord - 1, api.MaxRecord} {
		l = append(l, strings.Repeat(all, n/256+1)[:n], strconv.Itoa(n))
	}
	return l
}

func TestOpenedAgain(t *testing.T) {
	d := disk.New()
	w, _ := open(t, d, "w")
	l := bodies()
	for i, body := range l {
		appends(t, w, 1+i, body)
		ends(t, w, 1, 1+i)
		tells(t, seen(t, d, "w"), 1, l[:i+1]...)
		v, _ := open(t, d.Twin(), "w")
		ends(t, v, 1, 1+i)
		appends(t, v, 2+i, "behind")
	}
	want(t, "Sync", w.Sync(), api.OK)
	for range 3 {
		w, got := open(t, off(d), "w")
		tells(t, got, 1, l...)
		ends(t, w, 1, len(l))
	}
}

// What Open tells is synced, also where the power didn't go.
func TestOpenSyncs(t *testing.T) {
	d := disk.New()
	w, _ := open(t, d, "w")
	appends(t, w, 1, "a", "b")
	_, l := open(t, d, "w")
	tells(t, l, 1, "a", "b")
	tells(t, seen(t, after(d), "w"), 1, "a", "b")

	// Files that were put there from elsewhere have all tails.
	appends(t, w, 3, whole("c"), whole("d"), "e")
	copied := disk.New()
	for _, name := range d.List() {
		s, _ := d.Read(name)
		want(t, "Create", copied.Create(name), api.OK)
		want(t, "Append", copied.Append(name, s), api.OK)
	}
	open(t, copied, "w")
	tells(t, seen(t, off(copied), "w"), 1, "a", "b", whole("c"), whole("d"), "e")
}

// An object goes on where another one, of the same log, was opened and did nothing else.
func TestOpenedBesideAnother(t *testing.T) {
	d := disk.New()
	w, _ := open(t, d, "w")
	for i := range 8 {
		open(t, d, "w")
		appends(t, w, 2*i+1, "x")
		open(t, d, "w")
		appends(t, w, 2*i+2, whole("y"))
		want(t, "Sync", w.Sync(), api.OK)
		want(t, "Drop", w.Drop(2*i-1), api.OK)
	}
	off(d)
	appends(t, w, 17, "z")
}

// A frame that was torn is no matter to what is appended behind it, nor that to what is read again.
func TestTornFrames(t *testing.T) {
	for _, room := range []bool{true, false} {
		for keep := range 70 {
			d := disk.New()
			w, _ := open(t, d, "w")
			appends(t, w, 1, "first")
			want(t, "Sync", w.Sync(), api.OK)
			appends(t, w, 2, "second", "the third one, a long one", "fourth")
			off(d, keep)
			l := seen(t, d, "w")
			if !room {
				d.Room(d.Used())
			}
			w, got := open(t, d, "w")
			if !slices.Equal(got, l) || len(l) != 1+countAt(keep, 14, 47, 61) {
				t.Fatalf("%d kept: %s, %s", keep, short(l), short(got))
			}
			ends(t, w, 1, len(l))
			d.Room(-1)
			appends(t, w, len(l)+1, "behind", "behind that")
			want(t, "Sync", w.Sync(), api.OK)
			_, got = open(t, off(d), "w")
			if len(got) != len(l)+2 || !slices.Equal(got[:len(l)], l) || got[len(l)].Body != "behind" {
				t.Fatalf("%d kept, then: %s", keep, short(got))
			}
		}
	}
}

// countAt is how many of some ends are not above n.
func countAt(n int, ends ...int) int {
	k := 0
	for _, end := range ends {
		if end <= n {
			k++
		}
	}
	return k
}

// Where the power went while a torn log was mended nothing of that is left when it is opened.
func TestNothingIsLeftOfMending(t *testing.T) {
	for fuse := 1; ; fuse++ {
		d := disk.New()
		w, _ := open(t, d, "w")
		appends(t, w, 1, whole("a")[9:])
		want(t, "Sync", w.Sync(), api.OK)
		appends(t, w, 2, "torn")
		w, _ = open(t, off(d, 8), "w")
		used := d.Used()
		d.Fuse(fuse)
		if _, e := w.Append("b"); e == api.OK {
			return
		}
		_, l := open(t, off(d, 1<<20), "w")
		tells(t, l, 1, []string{whole("a")[9:], "b"}[:max(1, len(l))]...)
		if d.Used() > used+9 || ours(d, "w") != 1 {
			t.Errorf("fuse %d: Used %d, not %d, files %q", fuse, d.Used(), used, d.List())
		}
	}
}

// A log that was torn often has no more files than its bytes ask for.
func TestTornOften(t *testing.T) {
	d := disk.New()
	w, _ := open(t, d, "w")
	for i := range 400 {
		appends(t, w, i+1, "x")
		want(t, "Sync", w.Sync(), api.OK)
		appends(t, w, i+2, "lost")
		w, _ = open(t, off(d, 11), "w")
	}
	if len(seen(t, d, "w")) != 400 || ours(d, "w") != 1 {
		t.Errorf("%d records, %d files", len(seen(t, d, "w")), ours(d, "w"))
	}
}

// Files that nobody of ours left make no panic, and are not told as records that they don't have.
func TestFilesOfNoLog(t *testing.T) {
	a, _ := sum.Frame("a")
	b, _ := sum.Frame("b")
	nine := strings.Repeat("9", 19)
	one, two := strings.Repeat("0", 18)+"1", strings.Repeat("0", 18)+"2"
	for i, x := range []struct {
		files [][2]string
		first int // of the records that may be told; 0: none may
		told  string
	}{
		{[][2]string{{"", ""}}, 0, ""},
		{[][2]string{{"x", ""}}, 0, ""},
		{[][2]string{{"1", a}}, 0, ""},
		{[][2]string{{".", a}}, 0, ""},
		{[][2]string{{"new", a}}, 0, ""},
		{[][2]string{{"new", "junk"}, {one, a}}, 1, "a"},
		{[][2]string{{one, "junk"}}, 0, ""},
		{[][2]string{{one, a + "junk"}}, 1, "a"},
		{[][2]string{{two, a + b}}, 2, "ab"},
		{[][2]string{{one, a}, {two, b}}, 1, "ab"},
		{[][2]string{{one, a + b}, {two, b}}, 0, ""},
		{[][2]string{{one, ""}, {two, b}}, 0, ""},
		{[][2]string{{one, "junk"}, {two, b}}, 0, ""},
		{[][2]string{{one, a + "junk"}, {two, b}}, 1, "ab"},
		{[][2]string{{"0" + one[1:18] + "x", a}}, 0, ""},
		{[][2]string{{"-" + one[1:], a}}, 0, ""},
		{[][2]string{{"0" + one, a}}, 0, ""},
		{[][2]string{{one[1:], a}}, 0, ""},
		{[][2]string{{strings.Repeat("0", 19), a}}, 0, ""},
		{[][2]string{{nine, a}}, 0, ""},
		{[][2]string{{"9223372036854775807", a + b}}, 0, ""},
		{[][2]string{{"9223372036854775806", a + b}}, 0, ""},
		{[][2]string{{"4611686018427380000", a + b}}, 4611686018427380000, "ab"},
		{[][2]string{{one, strings.Repeat(a, 116508)}}, 1, strings.Repeat("a", 116508)},
		{[][2]string{{one, strings.Repeat("\xff", api.MaxFile)}}, 0, ""},
	} {
		d := disk.New()
		want(t, "Create", d.Create("other"), api.OK)
		for _, f := range x.files {
			want(t, "Create of "+f[0], d.Create("w."+f[0]), api.OK)
			want(t, "Append", d.Append("w."+f[0], f[1]), api.OK)
		}
		before := d.Twin()
		w, l, e := Open(d, "w")
		if e != api.OK {
			if w != nil || l != nil || e != api.ErrBad || !disk.Same(d, before) {
				t.Errorf("line %d: error %d", i, e)
			}
			if x.first != 0 {
				t.Errorf("line %d: files that a log may have left", i)
			}
			continue
		}
		var bodies []string
		for k, r := range l {
			bodies = append(bodies, r.Body)
			if r.N != x.first+k {
				t.Fatalf("line %d: number %d", i, r.N)
			}
		}
		if told := strings.Join(bodies, ""); told != x.told || len(others(d, "w")) != 1 {
			t.Errorf("line %d: %.20q", i, told)
		}
		appends(t, w, w.Last()+1, whole("x"), whole("y"), "z")
		want(t, "Drop", w.Drop(w.Last()-1), api.OK)
		want(t, "Drop", w.Drop(math.MaxInt), api.OK)
		ends(t, w, w.Last()+1, w.Last())
		if l := seen(t, off(d), "w"); len(l) != 0 {
			t.Errorf("line %d: %s", i, short(l))
		}
	}
}

// A full disk is no matter to a log that is there already, and asks for no other file.
func TestOpenOnAFullDisk(t *testing.T) {
	d := disk.New()
	w, _ := open(t, d, "w")
	appends(t, w, 1, "a")
	fill(t, d, api.MaxFiles)
	d.Room(0)
	v, l := open(t, d, "w")
	tells(t, l, 1, "a")
	refuses(t, v, "b", api.ErrFull)
	d.Room(-1)
	appends(t, v, 2, "b")

	// Of one that is torn, too, the records are told, and may be dropped.
	off(d, 3)
	v, l = open(t, d, "w")
	tells(t, l, 1, "a")
	for range 2 {
		refuses(t, v, "b", api.ErrFull)
		ends(t, v, 1, 1)
		tells(t, seen(t, d, "w"), 1, "a")
	}
	want(t, "Sync", v.Sync(), api.OK)
	want(t, "Drop", v.Drop(1), api.ErrFull)
	want(t, "Remove", d.Remove("other9"), api.OK)
	x := d.Twin()
	appends(t, v, 2, "c")
	tells(t, seen(t, d, "w"), 1, "a", "c")
	v, _ = open(t, x, "w")
	want(t, "Drop", v.Drop(1), api.OK)
	appends(t, v, 2, "c")
	tells(t, seen(t, x, "w"), 2, "c")
}

// P4.2

func TestAppendErrors(t *testing.T) {
	long := strings.Repeat("x", api.MaxRecord+1)
	var none *Wal
	for _, w := range []*Wal{none, {}, new(Wal)} {
		refuses(t, w, "a", api.ErrNil)
		refuses(t, w, long, api.ErrNil)
		want(t, "Sync", w.Sync(), api.ErrNil)
		want(t, "Drop", w.Drop(1), api.ErrNil)
		ends(t, w, 0, 0)
	}

	d := disk.New()
	w, _ := open(t, d, "w")
	d.Room(0)
	refuses(t, w, long, api.ErrLong)
	refuses(t, w, long+long, api.ErrLong)
	refuses(t, w, "a", api.ErrFull)
	d.Crash(nil)
	refuses(t, w, long, api.ErrLong)
	d.Start()
	d.Room(-1)
	appends(t, w, 1, "no call answered ErrDown", long[1:])
	d.Crash(nil)
	refuses(t, w, long, api.ErrLong)
	refuses(t, w, "a", api.ErrDown)
	d.Start()
	refuses(t, w, long, api.ErrLong)
	refuses(t, w, "a", api.ErrDown)
}

func TestSync(t *testing.T) {
	d := disk.New()
	w, _ := open(t, d, "w")
	tells(t, seen(t, after(d), "w"), 1)
	appends(t, w, 1, "a", "b")
	tells(t, seen(t, after(d), "w"), 1)
	want(t, "Sync", w.Sync(), api.OK)
	tells(t, seen(t, after(d), "w"), 1, "a", "b")
	want(t, "Sync", w.Sync(), api.OK)
	appends(t, w, 3, "c", whole("d"))
	tells(t, seen(t, after(d), "w"), 1, "a", "b")
	tells(t, seen(t, after(d, 8), "w"), 1, "a", "b")
	tells(t, seen(t, after(d, 9), "w"), 1, "a", "b", "c")
	tells(t, seen(t, after(d, Segment+8), "w"), 1, "a", "b", "c")
	tells(t, seen(t, after(d, Segment+9), "w"), 1, "a", "b", "c", whole("d"))
	ends(t, w, 1, 4)
}

// A record that goes into another file comes behind all others, also where the power goes then.
func TestAppendSyncsTheOtherFile(t *testing.T) {
	for n := 1; ; n++ {
		d := disk.New()
		w, _ := open(t, d, "w")
		appends(t, w, 1, "a", whole("b"))
		tells(t, seen(t, after(d), "w"), 1)
		d.Fuse(n)
		_, e := w.Append("c")
		if e == api.OK {
			d.Fuse(0)
			tells(t, seen(t, after(d), "w"), 1, "a", whole("b"))
			tells(t, seen(t, after(d, 9), "w"), 1, "a", whole("b"), "c")
			if ours(d, "w") != 2 {
				t.Errorf("%d files", ours(d, "w"))
			}
			return
		}
		want(t, "Append", e, api.ErrDown)
		for keep := range 20 {
			l := seen(t, after(d, keep, keep), "w")
			if len(l) == 3 && l[2].Body != "c" || len(l) > 0 && l[0].Body != "a" || len(l) > 3 {
				t.Errorf("fuse %d, %d kept: %s", n, keep, short(l))
			}
		}
	}
}

// A file takes records until it has Segment bytes.
func TestFilesAreFilled(t *testing.T) {
	d := disk.New()
	w, _ := open(t, d, "w")
	body := strings.Repeat("x", 1016)
	for i := range 64 {
		appends(t, w, i+1, body)
		if files := i/16 + 1; ours(d, "w") != files {
			t.Fatalf("%d records: %d files, not %d", i+1, ours(d, "w"), files)
		}
		if i%5 == 0 {
			w, _ = open(t, d, "w")
		}
	}
	appends(t, w, 65, strings.Repeat("x", Segment-9), strings.Repeat("y", api.MaxRecord), "z")
	if ours(d, "w") != 6 {
		t.Errorf("%d files", ours(d, "w"))
	}
}

// A disk without room, of however many bytes, leaves a log as it was.
func TestAppendWithoutRoom(t *testing.T) {
	t.Parallel()
	for _, ahead := range [][]string{nil, {"a"}, {"a", whole("b")}, {whole("a"), whole("b")}, {"a", whole("b"), "c"}} {
		for _, body := range []string{"", "x", "a longer one", whole("y")} {
			d := disk.New()
			w, _ := open(t, d, "w")
			appends(t, w, 1, ahead...)
			used, files := d.Used(), d.List()
			need := 0
			for room := max(used-9, 0); need == 0; room += 1 + len(body)/1000 {
				d.Room(room)
				n, e := w.Append(body)
				if e == api.OK {
					need = room
					if n != len(ahead)+1 || d.Used() > room {
						t.Errorf("number %d, Used %d, room %d", n, d.Used(), room)
					}
					break
				}
				if n != 0 || e != api.ErrFull || d.Used() != used || !slices.Equal(d.List(), files) {
					t.Fatalf("room %d: %d, error %d, files %q", room, n, e, d.List())
				}
				ends(t, w, 1, len(ahead))
				tells(t, seen(t, d, "w"), 1, ahead...)
			}
			if need < used+len(body) || need > used+len(body)+200 {
				t.Errorf("%d bytes behind %d: room %d", len(body), used, need)
			}
			want(t, "Sync", w.Sync(), api.OK)
			d.Room(-1)
			appends(t, w, len(ahead)+2, "behind")
			tells(t, seen(t, d, "w"), 1, append(slices.Clone(ahead), body, "behind")...)
			tells(t, seen(t, after(d), "w"), 1, append(slices.Clone(ahead), body)...)
		}
	}
}

func TestAppendWithoutFiles(t *testing.T) {
	d := disk.New()
	w, _ := open(t, d, "w")
	fill(t, d, api.MaxFiles)
	appends(t, w, 1, "a", whole("b"))
	for range 3 {
		refuses(t, w, "c", api.ErrFull)
		ends(t, w, 1, 2)
		tells(t, seen(t, d, "w"), 1, "a", whole("b"))
	}
	want(t, "Sync", w.Sync(), api.OK)
	want(t, "Remove", d.Remove("other7"), api.OK)
	appends(t, w, 3, "c")
	tells(t, seen(t, d, "w"), 1, "a", whole("b"), "c")
}

// The power may go, too, in what makes a log as it was that has no room.
func TestPowerGoesWithoutRoom(t *testing.T) {
	for n := 1; ; n++ {
		d := disk.New()
		w, _ := open(t, d, "w")
		appends(t, w, 1, "a", whole("b"))
		want(t, "Sync", w.Sync(), api.OK)
		d.Room(d.Used() + 8)
		d.Fuse(n)
		_, e := w.Append("c")
		if e == api.ErrFull && !d.Down() {
			return
		}
		want(t, "Append", e, api.ErrDown)
		off(d)
		refuses(t, w, "c", api.ErrDown)
		v, l := open(t, d, "w")
		tells(t, l, 1, "a", whole("b"))
		d.Room(-1)
		appends(t, v, 3, "c")
		tells(t, seen(t, d, "w"), 1, "a", whole("b"), "c")
	}
}

// P4.3

// left is what a log must have left of records of these bodies, behind Drop(n) with nothing dropped ahead of it.
func left(bodies []string, n int) int {
	first, size := 1, 0
	for i, body := range bodies {
		size += 8 + len(body)
		if size >= Segment || i == len(bodies)-1 {
			size = 0
			if i+1 <= n {
				first = i + 2
			}
		}
	}
	return first
}

func TestDrop(t *testing.T) {
	many := strings.Split(strings.Repeat(strings.Repeat("m", 5000)+" ", 30), " ")
	for _, all := range [][]string{nil, {"a"}, {"a", "b"}, {whole("a")}, {whole("a"), whole("b")}, {"a", whole("b"), "c", "d", whole("e"), "f"}, many} {
		for n := -2; n <= len(all)+2; n++ {
			d := disk.New()
			want(t, "Create", d.Create("other"), api.OK)
			w, _ := open(t, d, "w")
			appends(t, w, 1, all...)
			want(t, "Drop", w.Drop(n), api.OK)
			first := left(all, n)
			ends(t, w, first, len(all))
			tells(t, seen(t, d, "w"), first, all[first-1:]...)
			want(t, "the same Drop", w.Drop(n), api.OK)
			want(t, "Drop of less", w.Drop(n-1), api.OK)
			want(t, "Drop(MinInt)", w.Drop(math.MinInt), api.OK)
			ends(t, w, first, len(all))
			want(t, "Sync", w.Sync(), api.OK)
			v, _ := open(t, after(d), "w")
			ends(t, v, first, len(all))
			appends(t, w, len(all)+1, "x", "y")
			appends(t, v, len(all)+1, "x", "y")
			want(t, "Drop(MaxInt)", w.Drop(math.MaxInt), api.OK)
			ends(t, w, len(all)+3, len(all)+2)
			v, l := open(t, off(d), "w")
			tells(t, l, 1)
			ends(t, v, len(all)+3, len(all)+2)
			appends(t, v, len(all)+3, "z")
			if ours(d, "w") != 1 || len(others(d, "w")) != 1 {
				t.Errorf("Drop(%d) of %d: files %q", n, len(all), d.List())
			}
		}
	}
}

// However records lie: behind Drop fewer than Segment bytes, and one record's, are left of those up to its number.
func TestDropLeavesLittle(t *testing.T) {
	t.Parallel()
	r := dice(7)
	d := disk.New()
	w, _ := open(t, d, "w")
	sizes := []int{0}
	for range 60 {
		for range 20 {
			n := []int{r.roll(50), r.roll(3000), r.roll(30000), r.roll(api.MaxRecord + 1)}[r.roll(4)]
			sizes = append(sizes, n)
			appends(t, w, len(sizes)-1, strings.Repeat("x", n))
		}
		if r.roll(3) == 0 {
			_, e := w.Append("torn")
			want(t, "Append", e, api.OK)
			want(t, "Sync", w.Sync(), api.OK)
			sizes = append(sizes, 4)
			off(d, r.roll(12))
			w, _ = open(t, d, "w")
		}
		n := w.First() + r.roll(w.Last()-w.First()+2)
		want(t, "Drop", w.Drop(n), api.OK)
		if w.First() > n+1 || w.Last() != len(sizes)-1 {
			t.Fatalf("Drop(%d): First %d, Last %d", n, w.First(), w.Last())
		}
		if w.First() <= n {
			bytes := 0
			for _, size := range sizes[w.First():n] {
				bytes += size
			}
			if bytes >= Segment {
				t.Fatalf("Drop(%d): %d bytes are left from %d on, and one record's", n, bytes, w.First())
			}
		}
		if l := seen(t, d, "w"); len(l) != w.Last()-w.First()+1 {
			t.Fatalf("Drop(%d): %d records", n, len(l))
		}
	}
}

func TestDropWithoutFiles(t *testing.T) {
	d := disk.New()
	w, _ := open(t, d, "w")
	all := []string{"a", whole("b"), whole("c"), "d"}
	appends(t, w, 1, all...)
	want(t, "Sync", w.Sync(), api.OK)
	fill(t, d, api.MaxFiles)
	before := d.Twin()
	for _, n := range []int{4, 5, math.MaxInt} {
		want(t, "Drop of all", w.Drop(n), api.ErrFull)
		ends(t, w, 1, 4)
		tells(t, seen(t, d, "w"), 1, all...)
	}
	want(t, "Drop of none", w.Drop(1), api.OK)
	if !disk.Same(d, before) {
		t.Error("something has changed")
	}
	want(t, "Drop of some", w.Drop(3), api.OK)
	ends(t, w, 4, 4)
	want(t, "Drop of all", w.Drop(4), api.OK)
	ends(t, w, 5, 4)
	fill(t, d, api.MaxFiles)
	want(t, "Drop of all that are not there", w.Drop(9), api.OK)
	appends(t, w, 5, "e")
	tells(t, seen(t, d, "w"), 5, "e")
}

// Dropping asks for no room.
func TestDropWithoutRoom(t *testing.T) {
	d := disk.New()
	w, _ := open(t, d, "w")
	appends(t, w, 1, whole("a"), "b")
	d.Room(0)
	refuses(t, w, "c", api.ErrFull)
	want(t, "Drop", w.Drop(2), api.OK)
	ends(t, w, 3, 2)
	if d.Used() != 0 {
		t.Errorf("%d bytes are left", d.Used())
	}
	d.Room(-1)
	appends(t, w, 3, "c")
}

func TestFirstAndLast(t *testing.T) {
	d := disk.New()
	w, _ := open(t, d, "w")
	ends(t, w, 1, 0)
	appends(t, w, 1, "a")
	ends(t, w, 1, 1)
	want(t, "Drop", w.Drop(1), api.OK)
	ends(t, w, 2, 1)
	w, l := open(t, off(d), "w")
	tells(t, l, 2)
	ends(t, w, 2, 1)
	appends(t, w, 2, whole("b"), "c", "d")
	want(t, "Drop", w.Drop(2), api.OK)
	ends(t, w, 3, 4)
	want(t, "Drop", w.Drop(3), api.OK)
	ends(t, w, 3, 4)
	d.Crash(nil)
	ends(t, w, 3, 4)
	want(t, "Sync", w.Sync(), api.ErrDown)
	ends(t, w, 3, 4)
}

// A log is dead

// dies says where any call of a log is answered by something else than ErrDown.
func dies(t *testing.T, what string, w *Wal) {
	t.Helper()
	for range 2 {
		if n, e := w.Append("x"); n != 0 || e != api.ErrDown {
			t.Errorf("%s: Append: %d, error %d", what, n, e)
		}
		want(t, what+": Sync", w.Sync(), api.ErrDown)
		want(t, what+": Drop of none", w.Drop(0), api.ErrDown)
		want(t, what+": Drop of all", w.Drop(math.MaxInt), api.ErrDown)
	}
}

func TestDead(t *testing.T) {
	calls := map[string]func(w *Wal) api.Errno{
		"Append": func(w *Wal) api.Errno { _, e := w.Append("c"); return e },
		"Sync":   func(w *Wal) api.Errno { return w.Sync() },
		"Drop":   func(w *Wal) api.Errno { return w.Drop(9) },
	}
	begun := func() (*disk.Disk, *Wal) {
		d := disk.New()
		w, _ := open(t, d, "w")
		appends(t, w, 1, "a")
		want(t, "Sync", w.Sync(), api.OK)
		return d, w
	}
	for name, call := range calls {
		d, w := begun()
		d.Fuse(1)
		want(t, name, call(w), api.ErrDown)
		ends(t, w, 1, 1)
		dies(t, name+", the power off", w)
		d.Start()
		before := d.Twin()
		dies(t, name+", the power on again", w)
		ends(t, w, 1, 1)
		if !disk.Same(d, before) {
			t.Errorf("%s: a dead log changes something", name)
		}
		v, l := open(t, d, "w")
		tells(t, l, 1, "a")
		appends(t, v, 2, "b")
		dies(t, name+", opened anew", w)
		appends(t, v, 3, "c")

		d, w = begun()
		d.Crash(nil)
		want(t, name, call(w), api.ErrDown)
		d.Start()
		dies(t, name+", asked while the power was off", w)

		// Where no call answered ErrDown, and no tail was cut, it lives.
		d, w = begun()
		off(d)
		want(t, name, call(w), api.OK)
		appends(t, w, w.Last()+1, "d", "e")
		off(d, math.MaxInt)
		want(t, name, call(w), api.OK)

		for keep := range 10 {
			d, w = begun()
			appends(t, w, 2, "bb")
			off(d, keep)
			before = d.Twin()
			want(t, name, call(w), api.ErrDown)
			dies(t, name+", a tail was cut", w)
			if !disk.Same(d, before) {
				t.Errorf("%s: a dead log changes something", name)
			}
		}
		for _, other := range []string{"cc", "c", "ccc", "a", ""} {
			d, w = begun()
			appends(t, w, 2, "bb")
			v, _ := open(t, off(d), "w")
			appends(t, v, 2, other)
			want(t, name+" behind another log's", call(w), api.ErrDown)
			dies(t, name, w)
			appends(t, v, 3, "d")
			tells(t, seen(t, d, "w"), 1, "a", other, "d")
		}
		for _, n := range []int{1, 2} {
			d, w = begun()
			appends(t, w, 2, "bb")
			v, _ := open(t, off(d), "w")
			appends(t, v, 2, "bb")
			want(t, "Drop", v.Drop(n), api.OK)
			appends(t, v, 3, "c")
			want(t, name+" behind another log's Drop", call(w), api.ErrDown)
		}
	}
}

// Records that were torn, and others with the same numbers, are not the same.
func TestDeadBehindATornOne(t *testing.T) {
	d := disk.New()
	w, _ := open(t, d, "w")
	appends(t, w, 1, "a", "bb")
	v, _ := open(t, off(d, 12), "w")
	dies(t, "torn", w)
	appends(t, v, 2, "cc")
	dies(t, "torn", w)
	tells(t, seen(t, d, "w"), 1, "a", "cc")
}

// What another object did is no error but ErrDown, and makes no files that no log could have left.
func TestAnotherObjectGoesOn(t *testing.T) {
	both := func(bodies ...string) (d *disk.Disk, w, v *Wal) {
		d = disk.New()
		w, _ = open(t, d, "w")
		appends(t, w, 1, bodies...)
		want(t, "Sync", w.Sync(), api.OK)
		w, _ = open(t, d, "w")
		v, _ = open(t, d, "w")
		return d, w, v
	}
	d, w, v := both(whole("a"))
	appends(t, v, 2, "b")
	refuses(t, w, "c", api.ErrDown)
	tells(t, seen(t, d, "w"), 1, whole("a"), "b")

	d, w, v = both(whole("a"), whole("b"), "c")
	want(t, "Drop", v.Drop(1), api.OK)
	want(t, "Drop", w.Drop(2), api.OK)
	ends(t, w, 3, 3)
	tells(t, seen(t, d, "w"), 3, "c")

	// In the other one's call the power goes, but no tail is cut.
	for fuse := 1; ; fuse++ {
		d, w, v = both("a")
		d.Fuse(fuse)
		if e := v.Drop(1); e == api.OK {
			break
		}
		off(d)
		if _, e := w.Append("b"); e != api.ErrDown {
			want(t, "Append", e, api.OK)
			tells(t, seen(t, d, "w"), 1, "a", "b")
		} else {
			tells(t, seen(t, d, "w"), 1, "a")
		}
	}
	for fuse := 1; ; fuse++ {
		d, w, _ = both("a")
		appends(t, w, 2, "torn")
		w, _ = open(t, off(d, 9), "w")
		v, _ = open(t, d, "w")
		d.Fuse(fuse)
		if _, e := v.Append("b"); e == api.OK {
			break
		}
		off(d, 1<<20)
		if n, e := w.Append("c"); e != api.ErrDown {
			want(t, "Append", e, api.OK)
			tells(t, seen(t, d, "w"), 1, append([]string{"a", "b"}[:n-1], "c")...)
		}
	}
}

// Whatever two objects of one log do by turns, no number is given twice, and none is lost that both wrote.
func TestTwoObjectsOfOneLog(t *testing.T) {
	t.Parallel()
	for seed := range 300 {
		r := dice(seed)
		d := disk.New()
		var w [2]*Wal
		w[0], _ = open(t, d, "w")
		w[1], _ = open(t, d, "w")
		told := map[int]string{}
		for i := range 40 {
			x := &w[r.roll(2)]
			e := api.OK
			switch r.roll(8) {
			case 0:
				e = (*x).Drop((*x).Last() - r.roll(3))
			case 1:
				var v *Wal
				if v, _, e = Open(d, "w"); e == api.OK {
					*x = v
				}
			case 2:
				d.Fuse(1 + r.roll(4))
			case 3:
				off(d, r.roll(30), r.roll(30))
				told = map[int]string{}
				*x, _ = open(t, d, "w")
			default:
				body := strconv.Itoa(i)
				if r.roll(2) == 0 {
					body = whole("x") + body
				}
				var n int
				if n, e = (*x).Append(body); e == api.OK {
					if told[n] != "" {
						t.Fatalf("seed %d: the number %d twice", seed, n)
					}
					told[n] = body
				}
			}
			if e != api.OK && e != api.ErrDown {
				t.Fatalf("seed %d: error %d", seed, e)
			}
			if d.Down() {
				off(d, r.roll(30), r.roll(30))
				told = map[int]string{}
				continue
			}
			for _, r := range seen(t, d, "w") {
				if told[r.N] != "" && told[r.N] != r.Body {
					t.Fatalf("seed %d: the record %d is another one", seed, r.N)
				}
			}
		}
	}
}

// P4.4

// dice are numbers that are the same for the same seed.
type dice uint32

func (d *dice) roll(n int) int {
	*d = *d*1664525 + 1013904223
	return int(*d>>8) % n
}

// book is what was done to a log, as far as it must be found again.
type book struct {
	bodies []string // of all records; that whose Append the power went in is the last one
	synced int      // this many
	drop   int      // the greatest number that Drop was called with
	first  int      // the first record that was left ahead of a Drop that the power went in
}

func newBook() *book { return &book{first: 1} }

// wrong says what of the records that an opened log has can't be.
func (b *book) wrong(w *Wal, l []Record) string {
	for i, r := range l {
		switch {
		case r.N != w.First()+i:
			return "a gap at " + strconv.Itoa(r.N)
		case r.N > len(b.bodies):
			return "a record that nobody appended: " + strconv.Itoa(r.N)
		case r.Body != b.bodies[r.N-1]:
			return "another body of " + strconv.Itoa(r.N)
		}
	}
	switch {
	case w.Last() != w.First()-1+len(l):
		return "First, Last: " + strconv.Itoa(w.First()) + ", " + strconv.Itoa(w.Last())
	case w.Last() < b.synced:
		return "synced ones are lost: Last is " + strconv.Itoa(w.Last())
	case w.Last() > len(b.bodies):
		return "Last is " + strconv.Itoa(w.Last())
	case w.First() < b.first:
		return "dropped ones are there: First is " + strconv.Itoa(w.First())
	case w.First() > max(b.drop+1, b.first):
		return "others than dropped ones are gone: First is " + strconv.Itoa(w.First())
	}
	return ""
}

// opened is what is known when a log was opened: what is there stays.
func (b *book) opened(w *Wal) {
	b.bodies = b.bodies[:w.Last()]
	b.synced, b.first = w.Last(), w.First()
}

// append, sync and drop do that, and write it down.
func (b *book) append(w *Wal, body string) api.Errno {
	n, e := w.Append(body)
	if e == api.OK && n == len(b.bodies)+1 || e == api.ErrDown {
		b.bodies = append(b.bodies, body)
	} else if e == api.OK {
		b.bodies = nil // nothing is right any more
	}
	return e
}

func (b *book) sync(w *Wal) api.Errno {
	e := w.Sync()
	if e == api.OK {
		b.synced = len(b.bodies)
	}
	return e
}

func (b *book) dropTo(w *Wal, n int) api.Errno {
	e := w.Drop(n)
	if e != api.ErrFull {
		b.drop = max(b.drop, min(n, len(b.bodies)))
	}
	b.first = w.First()
	return e
}

// step is one call of a log.
type step func(w *Wal, b *book) api.Errno

func appending(body string) step {
	return func(w *Wal, b *book) api.Errno { return b.append(w, body) }
}
func syncing(w *Wal, b *book) api.Errno { return b.sync(w) }
func dropping(n int) step               { return func(w *Wal, b *book) api.Errno { return b.dropTo(w, n) } }

// rows are calls one behind the other, on a log without records.
func rows() map[string][]step {
	a, b, c := whole("a"), whole("b"), whole("c")
	return map[string][]step{
		"nothing":      {},
		"appended":     {appending("a"), appending("bb"), appending("")},
		"synced":       {appending("a"), syncing, appending("bb"), syncing, appending("ccc")},
		"files":        {appending(a), appending(b), appending("x"), appending("y")},
		"none dropped": {appending("a"), appending("b"), dropping(1), appending("c")},
		"all dropped":  {appending("a"), appending("b"), dropping(2), appending("c")},
		"dropped then": {appending("a"), syncing, dropping(1), appending("b"), syncing, dropping(2), dropping(3)},
		"some dropped": {appending(a), appending(b), appending(c), appending("d"), appending("e"), dropping(2), appending("f"), dropping(4)},
		"many dropped": {appending(a), appending(b), appending(c), appending("d"), syncing, appending("e"), dropping(5), appending("f"), appending("g")},
	}
}

// lose does calls on a disk with a fuse till one answers ErrDown; done is whether none did.
func lose(t *testing.T, d *disk.Disk, fuse int, row []step) (b *book, done bool) {
	t.Helper()
	b = newBook()
	d.Fuse(fuse)
	w, _, e := Open(d, "w")
	for _, do := range row {
		if e != api.OK {
			break
		}
		e = do(w, b)
	}
	if e != api.OK && e != api.ErrDown || d.Down() != (e == api.ErrDown) {
		t.Fatalf("fuse %d: error %d", fuse, e)
	}
	return b, e == api.OK
}

// found opens a log with all that may be there by a book, and again behind one crash more.
func found(t *testing.T, what string, d *disk.Disk, b *book) (*Wal, []Record) {
	t.Helper()
	w, l, e := Open(d, "w")
	if w == nil || e != api.OK {
		t.Fatalf("%s: Open: error %d", what, e)
	}
	if s := b.wrong(w, l); s != "" {
		t.Fatalf("%s: %s", what, s)
	}
	v, again, e := Open(after(d), "w")
	if e != api.OK || !slices.Equal(l, again) || v.First() != w.First() || v.Last() != w.Last() {
		t.Fatalf("%s: behind one crash more: error %d, %s, not %s", what, e, short(again), short(l))
	}
	return w, l
}

// goesOn appends to a log that was opened, and drops, and finds all again.
func goesOn(t *testing.T, what string, d *disk.Disk, w *Wal, b *book) {
	t.Helper()
	b.opened(w)
	for _, do := range []step{appending("new"), appending(whole("n")), syncing, appending("more"), dropping(w.Last()), appending("most")} {
		if e := do(w, b); e != api.OK {
			t.Fatalf("%s: then error %d", what, e)
		}
	}
	found(t, what+", then", after(d, 20), b)
}

// cuts are all disks that a crash may leave of one, as far as they are others; of long tails those about the ends of frames.
func cuts(d *disk.Disk) []*disk.Disk {
	var l []*disk.Disk
	keeps := []int{Segment - 1, Segment, Segment + 1, Segment + 9, 1 << 20}
	for n := range 40 {
		keeps = append(keeps, n)
	}
	for _, keep := range keeps {
		x := after(d, keep, keep, keep)
		if !slices.ContainsFunc(l, func(y *disk.Disk) bool { return disk.Same(x, y) }) {
			l = append(l, x)
		}
	}
	return l
}

// The power goes at each number, with tails of each length, and again at each number of the opening behind that.
func TestPowerGoesInEachCall(t *testing.T) {
	t.Parallel()
	for name, row := range rows() {
		for fuse, done := 1, false; !done; fuse++ {
			d := disk.New()
			var b *book
			b, done = lose(t, d, fuse, row)
			for i, x := range cuts(d) {
				what := name + ", fuse " + strconv.Itoa(fuse) + ", cut " + strconv.Itoa(i)
				loseAgain(t, what, x, b)
				mine := &book{slices.Clone(b.bodies), b.synced, b.drop, b.first}
				w, _ := found(t, what, x, mine)
				goesOn(t, what, x, w, mine)
			}
		}
	}
}

// loseAgain opens the log of a disk with the power going at each number: what is there then is the same.
func loseAgain(t *testing.T, what string, d *disk.Disk, b *book) {
	t.Helper()
	l := seen(t, d, "w")
	for fuse := 1; fuse < 20; fuse++ {
		x := d.Twin()
		x.Fuse(fuse)
		_, _, e := Open(x, "w")
		if e == api.OK {
			return
		}
		want(t, what, e, api.ErrDown)
		for _, y := range cuts(x) {
			if _, again := found(t, what+", again "+strconv.Itoa(fuse), y, b); !slices.Equal(l, again) {
				t.Fatalf("%s, again %d: %s, not %s", what, fuse, short(again), short(l))
			}
		}
	}
	t.Fatalf("%s: no opening without the power going", what)
}

// The power goes, too, in an Append behind a torn frame, with room for more than the record or without.
func TestPowerGoesBehindATornFrame(t *testing.T) {
	t.Parallel()
	for _, ahead := range [][]string{nil, {"a", "b"}, {whole("a"), "b"}, {whole("a")}} {
		for _, more := range []int{-1, 1000, 10} {
			d := disk.New()
			w, _ := open(t, d, "w")
			appends(t, w, 1, ahead...)
			want(t, "Sync", w.Sync(), api.OK)
			appends(t, w, len(ahead)+1, strings.Repeat("torn", 250))
			off(d, 999)
			if more >= 0 {
				d.Room(d.Used() + more)
			}
			for fuse, done := 1, false; !done; fuse++ {
				b := &book{bodies: slices.Clone(ahead), synced: len(ahead), first: 1}
				x := d.Twin()
				x.Fuse(fuse)
				w, _, e := Open(x, "w")
				if e == api.OK {
					e = b.append(w, "xy")
				}
				done = e == api.OK
				if !done {
					want(t, "Open or Append", e, api.ErrDown)
				}
				for i, y := range cuts(x) {
					what := strconv.Itoa(len(ahead)) + " ahead, room " + strconv.Itoa(more) + ", fuse " + strconv.Itoa(fuse) + ", cut " + strconv.Itoa(i)
					mine := &book{slices.Clone(b.bodies), b.synced, b.drop, b.first}
					y.Room(-1)
					loseAgain(t, what, y, mine)
					w, _ := found(t, what, y, mine)
					goesOn(t, what, y, w, mine)
				}
			}
		}
	}
}

// By any calls at random, on disks that have too little of everything, what was synced is there.
func TestAtRandom(t *testing.T) {
	t.Parallel()
	for seed := range 100 {
		walk(t, dice(seed), "seed "+strconv.Itoa(seed))
	}
}

// body is one of any length, mostly short.
func (r *dice) body(i int) string {
	n := []int{r.roll(4), r.roll(40), r.roll(4000), Segment - 12 + r.roll(9), r.roll(api.MaxRecord - 9)}[r.roll(5)]
	return strconv.Itoa(i) + strings.Repeat("x", n)
}

// walk goes through a hundred calls.
func walk(t *testing.T, r dice, what string) {
	d, b := disk.New(), newBook()
	fill(t, d, api.MaxFiles-2-r.roll(12))
	before := others(d, "w")
	w, _ := open(t, d, "w")
	for i := range 100 {
		here := what + ", call " + strconv.Itoa(i)
		e := api.OK
		switch r.roll(12) {
		case 0, 1, 2, 3:
			e = b.append(w, r.body(i))
		case 4:
			e = b.sync(w)
		case 5:
			e = b.dropTo(w, w.First()+r.roll(w.Last()-w.First()+3)-1)
		case 6:
			d.Room(d.Used() + r.roll(40000) - 5)
		case 7, 8:
			d.Room(-1)
		case 9:
			d.Fuse(1 + r.roll(12))
		case 10:
			d.Crash([]int{r.roll(90000), r.roll(90)})
		case 11:
			v, l, opened := Open(d, "w")
			if e = opened; e == api.OK {
				w = v
				if s := b.wrong(w, l); s != "" {
					t.Fatalf("%s: %s", here, s)
				}
				b.opened(w)
			}
		}
		if e != api.OK && e != api.ErrFull && e != api.ErrDown || d.Down() && e == api.ErrFull {
			t.Fatalf("%s: error %d", here, e)
		}
		if d.Down() || e == api.ErrDown {
			w = again(t, here, &r, d, b)
		}
	}
	if now := others(d, "w"); len(now) != len(before) {
		t.Errorf("%s: %d other files, not %d", what, len(now), len(before))
	}
}

// again gives a disk its power and some room, and opens its log anew, however often the power goes meanwhile.
func again(t *testing.T, what string, r *dice, d *disk.Disk, b *book) *Wal {
	t.Helper()
	d.Crash([]int{r.roll(90000), r.roll(90)})
	for range 4 {
		d.Start()
		d.Fuse(r.roll(6))
		if _, _, e := Open(d, "w"); e == api.ErrBad {
			t.Fatalf("%s: ErrBad", what)
		}
		d.Crash([]int{r.roll(90000), r.roll(90)})
	}
	d.Start()
	w, l := found(t, what, d, b)
	if len(seen(t, d, "w")) != len(l) {
		t.Fatalf("%s: not the same twice", what)
	}
	b.opened(w)
	return w
}

func TestTwoLogsOfOneDisk(t *testing.T) {
	t.Parallel()
	names := []string{"a", "b", "aa", "ab", "log", "logs"}
	for seed := range 10 {
		r := dice(seed)
		both := disk.New()
		fill(t, both, 3)
		logs, alone, disks := map[string]*Wal{}, map[string]*Wal{}, map[string]*disk.Disk{}
		for _, name := range names {
			disks[name] = disk.New()
			logs[name], _ = open(t, both, name)
			alone[name], _ = open(t, disks[name], name)
		}
		for i := range 150 {
			name := names[r.roll(len(names))]
			w, v := logs[name], alone[name]
			before := others(both, name)
			switch r.roll(6) {
			case 0:
				want(t, "Sync", w.Sync(), v.Sync())
			case 1:
				n := w.First() + r.roll(w.Last()-w.First()+2) - 1
				want(t, "Drop", w.Drop(n), v.Drop(n))
			case 2:
				var l, m []Record
				logs[name], l = open(t, both, name)
				alone[name], m = open(t, disks[name], name)
				if !slices.Equal(l, m) {
					t.Fatalf("seed %d: %s has %s, not %s", seed, name, short(l), short(m))
				}
			default:
				body := r.body(i)
				n, e := v.Append(body)
				want(t, "Append", e, api.OK)
				appends(t, w, n, body)
			}
			if len(others(both, name)) != len(before) || logs[name].First() != alone[name].First() {
				t.Fatalf("seed %d: a call of %s changes another's", seed, name)
			}
			for f, s := range others(both, name) {
				if s != before[f] {
					t.Fatalf("seed %d: a call of %s changes %s", seed, name, f)
				}
			}
		}
		for _, name := range names {
			if l, m := seen(t, both, name), seen(t, disks[name], name); !slices.Equal(l, m) {
				t.Fatalf("seed %d: at last %s has %s, not %s", seed, name, short(l), short(m))
			}
		}
	}
}

// The file that is named as a log, and others whose names begin so without the point, are none of its files.
func TestOtherFilesStay(t *testing.T) {
	d := disk.New()
	names := []string{"w", "w-", "w0.1", "ww.1", "a.w.1", ".w", "v.0000000000000000001"}
	for _, name := range names {
		want(t, "Create", d.Create(name), api.OK)
		want(t, "Append", d.Append(name, name), api.OK)
	}
	w, l := open(t, d, "w")
	tells(t, l, 1)
	appends(t, w, 1, whole("a"), whole("b"), "c")
	want(t, "Drop", w.Drop(1), api.OK)
	want(t, "Drop", w.Drop(9), api.OK)
	appends(t, w, 4, "torn")
	for _, x := range []*disk.Disk{d, off(d, 0, 0, 0, 5)} {
		open(t, x, "w")
		for _, name := range names {
			if s, e := x.Read(name); e != api.OK || !strings.HasPrefix(name, s) {
				t.Errorf("%s has %q, error %d", name, s, e)
			}
		}
	}
	// Nor are they synced.
	for _, name := range names {
		want(t, "Append", d.Append(name, "tail"), api.OK)
	}
	w, _ = open(t, d, "w")
	appends(t, w, w.Last()+1, whole("x"), "y")
	want(t, "Sync", w.Sync(), api.OK)
	off(d)
	for _, name := range names {
		if s, _ := d.Read(name); strings.HasSuffix(s, "tail") {
			t.Errorf("%s is synced", name)
		}
	}
}

// Rules R3 and R4

// within says whether a text's bytes lie in another's memory.
func within(s, memory string) bool {
	p, begin := uintptr(unsafe.Pointer(unsafe.StringData(s))), uintptr(unsafe.Pointer(unsafe.StringData(memory)))
	return p >= begin && p < begin+uintptr(len(memory))
}

func TestAnswersAreNewMemory(t *testing.T) {
	d := disk.New()
	memory := strings.Clone("name body another")
	w, _ := open(t, d, memory[:4])
	appends(t, w, 1, memory[5:9], memory[10:])
	if within(w.log, memory) || within(w.tail, memory) || within(w.name, memory) {
		t.Error("what was handed in is kept")
	}
	_, one := open(t, d, "name")
	_, two := open(t, d, "name")
	for i := range one {
		if within(one[i].Body, memory) || within(one[i].Body, two[i].Body) {
			t.Error("a record lies in other memory")
		}
	}
	one[0].Body = "other"
	tells(t, two, 1, "body", "another")
	tells(t, seen(t, d, "name"), 1, "body", "another")
}

// What is kept is no more than what may be cut.
func TestKeepsOnlyTheTail(t *testing.T) {
	d := disk.New()
	w, _ := open(t, d, "w")
	for i := range 20 {
		appends(t, w, i+1, whole("x"))
		if len(w.tail) > Segment+api.MaxRecord+8 {
			t.Fatalf("%d bytes are kept", len(w.tail))
		}
	}
	want(t, "Sync", w.Sync(), api.OK)
	want(t, "Drop", w.Drop(19), api.OK)
	if w.tail != "" || len(w.firsts) != 1 {
		t.Errorf("%d bytes and %d numbers are kept", len(w.tail), len(w.firsts))
	}
}

func TestLogsOfTwoDisks(t *testing.T) {
	d, x := disk.New(), disk.New()
	w, _ := open(t, d, "w")
	v, _ := open(t, x, "w")
	appends(t, w, 1, "a", "b")
	appends(t, v, 1, "c")
	x.Crash(nil)
	appends(t, w, 3, "d")
	tells(t, seen(t, d, "w"), 1, "a", "b", "d")
	dies(t, "its own disk's power", v)
}
