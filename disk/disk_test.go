package disk

import (
	"math"
	"slices"
	"strconv"
	"strings"
	"testing"
	"unsafe"

	"redress/api"
)

// want says where a call's error is another one.
func want(t *testing.T, what string, got, wanted api.Errno) {
	t.Helper()
	if got != wanted {
		t.Errorf("%s: error %d, not %d", what, got, wanted)
	}
}

// reads says where a file's bytes are others.
func reads(t *testing.T, d *Disk, name, wanted string) {
	t.Helper()
	if s, e := d.Read(name); s != wanted || e != api.OK {
		t.Errorf("Read(%s): %.40q, error %d, not %.40q", name, s, e, wanted)
	}
}

// lists says where there are other files.
func lists(t *testing.T, d *Disk, names ...string) {
	t.Helper()
	if l := d.List(); !slices.Equal(l, names) {
		t.Errorf("List: %q, not %q", l, names)
	}
}

// with is a disk with files: of each its name, what is synced of it, its tail.
func with(t *testing.T, files ...[3]string) *Disk {
	t.Helper()
	d := New()
	for _, f := range files {
		want(t, "Create", d.Create(f[0]), api.OK)
		want(t, "Append", d.Append(f[0], f[1]), api.OK)
		want(t, "Sync", d.Sync(f[0]), api.OK)
		want(t, "Append", d.Append(f[0], f[2]), api.OK)
	}
	return d
}

// synced is what of a file a crash leaves that keeps nothing of tails.
func synced(d *Disk, name string) string {
	d = d.Twin()
	d.Crash(nil)
	d.Start()
	s, _ := d.Read(name)
	return s
}

// fuseOf is how many changing calls there are till a disk's power goes, and 0, if that is more than 20.
func fuseOf(d *Disk) int {
	d = d.Twin()
	d.Start()
	d.Create("probe")
	for n := range 20 {
		if d.Down() {
			return n + 1
		}
		d.Sync("probe")
	}
	return 0
}

// call is a changing call of the file a, of which b is no other file's name.
type call struct {
	name string
	do   func(d *Disk) api.Errno
}

// calls are the five changing ones; each has no error on a disk with the file a, and without b.
func calls() []call {
	return []call{
		{"Create", func(d *Disk) api.Errno { return d.Create("b") }},
		{"Append", func(d *Disk) api.Errno { return d.Append("a", "xyz") }},
		{"Sync", func(d *Disk) api.Errno { return d.Sync("a") }},
		{"Rename", func(d *Disk) api.Errno { return d.Rename("a", "b") }},
		{"Remove", func(d *Disk) api.Errno { return d.Remove("a") }},
	}
}

func TestExamples(t *testing.T) {
	d := New()
	want(t, "Create(a)", d.Create("a"), api.OK)
	want(t, "Create(a)", d.Create("a"), api.ErrThere)
	want(t, "Create(A)", d.Create("A"), api.ErrArg)
	want(t, "Append(b, x)", d.Append("b", "x"), api.ErrNone)
	want(t, "Append(a, hello)", d.Append("a", "hello"), api.OK)
	reads(t, d, "a", "hello")
	if d.Used() != 5 {
		t.Error("Used", d.Used())
	}

	want(t, "Sync(a)", d.Sync("a"), api.OK)
	want(t, "Append(a, world)", d.Append("a", "world"), api.OK)
	d.Crash([]int{2})
	if s, e := d.Read("a"); s != "" || e != api.ErrDown {
		t.Errorf("Read(a): %q, error %d", s, e)
	}
	d.Start()
	reads(t, d, "a", "hellowo")

	d.Fuse(2)
	want(t, "Append(a, x)", d.Append("a", "x"), api.OK)
	want(t, "Rename(a, b)", d.Rename("a", "b"), api.ErrDown)
	d.Start()
	lists(t, d, "a")
	reads(t, d, "a", "hellowo")

	d.Fuse(1)
	want(t, "Append(a, xyz)", d.Append("a", "xyz"), api.ErrDown)
	d.Crash([]int{0, 5})
	d.Crash([]int{5})
	d.Start()
	reads(t, d, "a", "hellowo")

	d.Room(8)
	want(t, "Append(a, yz)", d.Append("a", "yz"), api.ErrFull)
	want(t, "Append(a, y)", d.Append("a", "y"), api.OK)
	want(t, "Rename(a, b)", d.Rename("a", "b"), api.OK)
	lists(t, d, "b")
}

// P2.1

func TestNew(t *testing.T) {
	d := New()
	if d == nil || d.Down() || d.Used() != 0 || len(d.List()) != 0 || fuseOf(d) != 0 {
		t.Error("a new disk has something")
	}
	want(t, "Create", d.Create("a"), api.OK)
	for range 8 {
		want(t, "Append", d.Append("a", strings.Repeat("x", api.MaxFile/8)), api.OK)
	}
	if New() == New() {
		t.Error("two that are one")
	}
}

func TestListAndUsed(t *testing.T) {
	d := with(t, [3]string{"b", "12", "3"}, [3]string{"a.1", "", "4"}, [3]string{"a", "", ""}, [3]string{"a-", "56", ""}, [3]string{"aa", "", "7"}, [3]string{"0", "", ""}, [3]string{"a0", "", ""})
	names := []string{"0", "a", "a-", "a.1", "a0", "aa", "b"}
	lists(t, d, names...)
	if d.Used() != 7 {
		t.Error("Used", d.Used())
	}
	d.Fuse(1)
	want(t, "Append", d.Append("a", "89"), api.ErrDown)
	lists(t, d, names...)
	if d.Used() != 9 || !d.Down() {
		t.Error("while the power is off: Used, Down", d.Used(), d.Down())
	}
	d.Crash(nil)
	lists(t, d, names...)
	if d.Used() != 4 || !d.Down() {
		t.Error("behind a crash: Used, Down", d.Used(), d.Down())
	}
	d.Start()
	lists(t, d, names...)
	if d.Used() != 4 || d.Down() {
		t.Error("begun again: Used, Down", d.Used(), d.Down())
	}
	want(t, "Remove", d.Remove("b"), api.OK)
	want(t, "Rename", d.Rename("a-", "aa"), api.OK)
	lists(t, d, "0", "a", "a.1", "a0", "aa")
	if d.Used() != 2 {
		t.Error("behind Remove and Rename: Used", d.Used())
	}
}

// P2.2

func TestNames(t *testing.T) {
	for c := range 256 {
		s := string([]byte{byte(c)})
		wanted := api.ErrArg
		if strings.Contains("abcdefghijklmnopqrstuvwxyz0123456789.-", s) {
			wanted = api.OK
		}
		for _, name := range []string{s, "a" + s, s + "a", "a" + s + "a", strings.Repeat("a", 31) + s} {
			d := New()
			want(t, "Create of "+strconv.Quote(name), d.Create(name), wanted)
			if wanted == api.OK {
				lists(t, d, name)
			} else {
				lists(t, d)
			}
			d = with(t, [3]string{"from", "", ""})
			want(t, "Rename to "+strconv.Quote(name), d.Rename("from", name), wanted)
		}
	}
}

func TestNamesLengths(t *testing.T) {
	for n, wanted := range map[int]api.Errno{0: api.ErrArg, 1: api.OK, 2: api.OK, 31: api.OK, 32: api.OK, 33: api.ErrArg, 64: api.ErrArg, 1 << 20: api.ErrArg} {
		name := strings.Repeat("a", n)
		what := " of a name of " + strconv.Itoa(n)
		d := New()
		want(t, "Create"+what, d.Create(name), wanted)
		d = with(t, [3]string{"from", "", ""})
		want(t, "Rename"+what, d.Rename("from", name), wanted)
	}
}

func TestCreate(t *testing.T) {
	d := with(t, [3]string{"a", "1", "2"})
	want(t, "of one that is there", d.Create("a"), api.ErrThere)
	reads(t, d, "a", "12")
	want(t, "of another one", d.Create("aa"), api.OK)
	reads(t, d, "aa", "")
	want(t, "Remove", d.Remove("a"), api.OK)
	want(t, "of one that was removed", d.Create("a"), api.OK)
	reads(t, d, "a", "")
	d.Crash(nil)
	d.Start()
	lists(t, d, "a", "aa")
}

func TestMostFiles(t *testing.T) {
	d := New()
	for i := range 256 {
		want(t, "Create", d.Create("f"+strconv.Itoa(i)), api.OK)
	}
	full := d.Twin()
	want(t, "the 257th", d.Create("g"), api.ErrFull)
	want(t, "one that is there", d.Create("f0"), api.ErrThere)
	want(t, "no name", d.Create("G"), api.ErrArg)
	if !Same(d, full) || len(d.List()) != 256 {
		t.Error("what had an error changed something")
	}
	want(t, "Rename", d.Rename("f0", "g"), api.OK)
	want(t, "still full", d.Create("f0"), api.ErrFull)
	want(t, "Rename onto another one", d.Rename("g", "f1"), api.OK)
	want(t, "one less", d.Create("f0"), api.OK)
	want(t, "Remove", d.Remove("f2"), api.OK)
	want(t, "one less", d.Create("g"), api.OK)
	want(t, "full again", d.Create("f2"), api.ErrFull)
}

func TestAppend(t *testing.T) {
	d := with(t, [3]string{"a", "", ""}, [3]string{"b", "", ""})
	all := ""
	for c := range 256 {
		s := strings.Repeat(string([]byte{byte(c)}), c%5)
		all += s
		want(t, "Append", d.Append("a", s), api.OK)
		reads(t, d, "a", all)
	}
	reads(t, d, "b", "")
	if synced(d, "a") != "" {
		t.Error("what is appended is synced")
	}
	want(t, "no such file", d.Append("c", ""), api.ErrNone)
	want(t, "no name", d.Append("A", "x"), api.ErrNone)
	want(t, "no name", d.Append("", "x"), api.ErrNone)
	want(t, "too much for no file", d.Append("c", strings.Repeat("x", api.MaxFile+1)), api.ErrNone)
	lists(t, d, "a", "b")
}

func TestLongestFile(t *testing.T) {
	most := strings.Repeat("x", 1<<20)
	d := with(t, [3]string{"a", "", ""})
	want(t, "one byte more than a file has", d.Append("a", most+"y"), api.ErrLong)
	reads(t, d, "a", "")
	want(t, "as many as a file has", d.Append("a", most), api.OK)
	want(t, "nothing behind", d.Append("a", ""), api.OK)
	want(t, "one behind", d.Append("a", "y"), api.ErrLong)
	want(t, "as many again", d.Append("a", most), api.ErrLong)
	reads(t, d, "a", most)
	want(t, "another file", d.Create("b"), api.OK)
	want(t, "its first bytes", d.Append("b", most[1:]), api.OK)
	want(t, "two more", d.Append("b", "yz"), api.ErrLong)
	want(t, "its last one", d.Append("b", "z"), api.OK)
	reads(t, d, "b", most[1:]+"z")
	d.Room(0)
	want(t, "too long, and no room", d.Append("a", "y"), api.ErrLong)
	want(t, "no such file, and no room", d.Append("c", "y"), api.ErrNone)
}

func TestSync(t *testing.T) {
	d := with(t, [3]string{"a", "12", "3"}, [3]string{"b", "4", "5"})
	if synced(d, "a") != "12" || synced(d, "b") != "4" {
		t.Error("tails are synced already")
	}
	want(t, "Sync", d.Sync("a"), api.OK)
	if synced(d, "a") != "123" || synced(d, "b") != "4" {
		t.Error("not just the one's tail is synced")
	}
	want(t, "Sync again", d.Sync("a"), api.OK)
	want(t, "no such file", d.Sync("c"), api.ErrNone)
	want(t, "no name", d.Sync("A"), api.ErrNone)
	reads(t, d, "a", "123")
	reads(t, d, "b", "45")
}

func TestRename(t *testing.T) {
	d := with(t, [3]string{"a", "12", "3"}, [3]string{"b", "4", "56"}, [3]string{"c", "", "7"})
	before := d.Twin()
	want(t, "no such file, no name", d.Rename("d", "D"), api.ErrNone)
	want(t, "no such file", d.Rename("d", "a"), api.ErrNone)
	want(t, "no such file, onto itself", d.Rename("d", "d"), api.ErrNone)
	want(t, "no name", d.Rename("a", "A"), api.ErrArg)
	want(t, "no name", d.Rename("a", ""), api.ErrArg)
	want(t, "onto itself", d.Rename("a", "a"), api.OK)
	if !Same(d, before) {
		t.Error("something has changed")
	}
	want(t, "to a new name", d.Rename("c", "d"), api.OK)
	lists(t, d, "a", "b", "d")
	reads(t, d, "d", "7")
	if synced(d, "d") != "" {
		t.Error("a tail that was renamed is synced")
	}
	want(t, "onto another one", d.Rename("a", "b"), api.OK)
	lists(t, d, "b", "d")
	reads(t, d, "b", "123")
	if synced(d, "b") != "12" {
		t.Error("onto another one: synced", synced(d, "b"))
	}
	want(t, "the old name is free", d.Create("a"), api.OK)
	want(t, "Append", d.Append("a", "x"), api.OK)
	reads(t, d, "b", "123")
	d.Crash(nil)
	d.Start()
	lists(t, d, "a", "b", "d")
}

func TestRemove(t *testing.T) {
	d := with(t, [3]string{"a", "12", "3"}, [3]string{"b", "4", "56"})
	want(t, "no such file", d.Remove("c"), api.ErrNone)
	want(t, "no name", d.Remove("A"), api.ErrNone)
	want(t, "Remove", d.Remove("a"), api.OK)
	want(t, "Remove again", d.Remove("a"), api.ErrNone)
	lists(t, d, "b")
	reads(t, d, "b", "456")
	d.Crash(nil)
	d.Start()
	lists(t, d, "b")
}

func TestRead(t *testing.T) {
	d := with(t, [3]string{"a", "12", "3"})
	reads(t, d, "a", "123")
	for _, name := range []string{"b", "A", "", "aa"} {
		if s, e := d.Read(name); s != "" || e != api.ErrNone {
			t.Errorf("Read(%q): %q, error %d", name, s, e)
		}
	}
}

func TestPowerThatIsOff(t *testing.T) {
	ways := map[string]func(d *Disk){
		"Crash": func(d *Disk) { d.Crash(nil) },
		"Fuse":  func(d *Disk) { d.Fuse(1); d.Sync("a") },
	}
	for way, off := range ways {
		d := with(t, [3]string{"a", "1", "2"})
		off(d)
		before := d.Twin()
		for _, c := range calls() {
			want(t, way+": "+c.name, c.do(d), api.ErrDown)
		}
		want(t, way+": Create of no name", d.Create("A"), api.ErrDown)
		want(t, way+": Create of one that is there", d.Create("a"), api.ErrDown)
		want(t, way+": Append of no file", d.Append("c", ""), api.ErrDown)
		want(t, way+": Append of too much", d.Append("a", strings.Repeat("x", api.MaxFile+1)), api.ErrDown)
		want(t, way+": Sync of no file", d.Sync("c"), api.ErrDown)
		want(t, way+": Rename of no file", d.Rename("c", "C"), api.ErrDown)
		want(t, way+": Remove of no file", d.Remove("c"), api.ErrDown)
		for _, name := range []string{"a", "c"} {
			if s, e := d.Read(name); s != "" || e != api.ErrDown {
				t.Errorf("%s: Read(%s): %q, error %d", way, name, s, e)
			}
		}
		if !Same(d, before) {
			t.Errorf("%s: something has changed", way)
		}
	}
}

// P2.3

func TestFuseGoesInEachCall(t *testing.T) {
	for _, c := range calls() {
		for n := 1; n <= 3; n++ {
			d := with(t, [3]string{"a", "1", "2"})
			d.Fuse(n)
			for range n - 1 {
				want(t, "Sync", d.Sync("a"), api.OK)
				want(t, "Sync of no file", d.Sync("c"), api.ErrNone)
				reads(t, d, "a", "12")
			}
			base := synced(d, "a")
			if d.Down() {
				t.Errorf("%s, fuse %d: the power went too early", c.name, n)
			}
			want(t, c.name, c.do(d), api.ErrDown)
			if !d.Down() {
				t.Errorf("%s, fuse %d: the power is on", c.name, n)
			}
			lists(t, d, "a")
			bytes, used := "12", 2
			if c.name == "Append" {
				bytes, used = "12xyz", 5
			}
			if d.Used() != used {
				t.Errorf("%s, fuse %d: Used %d", c.name, n, d.Used())
			}
			whole := d.Twin()
			whole.Crash([]int{math.MaxInt})
			whole.Start()
			reads(t, whole, "a", bytes)
			d.Start()
			reads(t, d, "a", base)
			if fuseOf(d) != 0 || fuseOf(whole) != 0 {
				t.Errorf("%s, fuse %d: there is a fuse still", c.name, n)
			}
		}
	}
}

func TestNoFuse(t *testing.T) {
	for _, n := range []int{0, -1, -2, math.MinInt} {
		d := with(t, [3]string{"a", "", ""})
		none := d.Twin()
		d.Fuse(2)
		d.Fuse(n)
		if !Same(d, none) {
			t.Errorf("Fuse(%d) is another than none", n)
		}
		for range 100 {
			want(t, "Append", d.Append("a", "x"), api.OK)
		}
	}
}

func TestFuseAgain(t *testing.T) {
	d := with(t, [3]string{"a", "", ""})
	d.Fuse(1)
	d.Fuse(3)
	if fuseOf(d) != 3 {
		t.Error("the fuse is", fuseOf(d))
	}
	d.Fuse(2)
	want(t, "Sync", d.Sync("a"), api.OK)
	want(t, "Sync", d.Sync("a"), api.ErrDown)
}

// Of several errors the call's own comes first, and takes nothing off the fuse.
func TestErrorsLeaveTheFuse(t *testing.T) {
	d := with(t, [3]string{"a", "1", "2"})
	d.Room(5)
	d.Fuse(1)
	before := d.Twin()
	want(t, "Create of no name", d.Create("A"), api.ErrArg)
	want(t, "Create of one that is there", d.Create("a"), api.ErrThere)
	want(t, "Append of no file", d.Append("b", ""), api.ErrNone)
	want(t, "Append of too much", d.Append("a", strings.Repeat("x", api.MaxFile)), api.ErrLong)
	want(t, "Append without room", d.Append("a", "xxxx"), api.ErrFull)
	want(t, "Sync of no file", d.Sync("b"), api.ErrNone)
	want(t, "Rename of no file", d.Rename("b", "a"), api.ErrNone)
	want(t, "Rename to no name", d.Rename("a", "A"), api.ErrArg)
	want(t, "Remove of no file", d.Remove("b"), api.ErrNone)
	reads(t, d, "a", "12")
	if !Same(d, before) {
		t.Error("something has changed")
	}
	want(t, "Rename onto itself", d.Rename("a", "a"), api.ErrDown)
}

// P2.4

func TestRoom(t *testing.T) {
	d := with(t, [3]string{"a", "1", "2"}, [3]string{"b", "", "34"})
	d.Room(6)
	want(t, "more than there is room for", d.Append("a", "xyz"), api.ErrFull)
	reads(t, d, "a", "12")
	want(t, "as much as there is room for", d.Append("a", "xy"), api.OK)
	want(t, "nothing, the room reached", d.Append("a", ""), api.OK)
	want(t, "one more", d.Append("b", "z"), api.ErrFull)
	want(t, "a file, the room reached", d.Create("c"), api.OK)
	want(t, "Remove", d.Remove("b"), api.OK)
	want(t, "room that is free again", d.Append("c", "zz"), api.OK)
	d.Room(5)
	want(t, "nothing, Used being above the room", d.Append("a", ""), api.ErrFull)
	want(t, "Sync, Used being above the room", d.Sync("a"), api.OK)
	if d.Used() != 6 {
		t.Error("a room that is too small takes bytes away")
	}
	d.Room(0)
	want(t, "no room", d.Append("c", "z"), api.ErrFull)
	for _, n := range []int{-1, math.MinInt, math.MaxInt} {
		d.Room(0)
		d.Room(n)
		want(t, "Room("+strconv.Itoa(n)+")", d.Append("c", "z"), api.OK)
	}
	empty := with(t, [3]string{"a", "", ""})
	empty.Room(0)
	want(t, "nothing, a room of none", empty.Append("a", ""), api.OK)
	want(t, "a byte, a room of none", empty.Append("a", "x"), api.ErrFull)
}

func TestRoomStaysBehindACrash(t *testing.T) {
	d := with(t, [3]string{"a", "1", "2"})
	d.Room(2)
	d.Crash(nil)
	d.Start()
	want(t, "two behind one", d.Append("a", "xy"), api.ErrFull)
	want(t, "one behind one", d.Append("a", "x"), api.OK)
}

func TestCrashKeeps(t *testing.T) {
	for _, x := range []struct {
		keep    []int
		a, c, e string
	}{
		{nil, "1", "", "67"},
		{[]int{}, "1", "", "67"},
		{[]int{0, 0, 0}, "1", "", "67"},
		{[]int{1}, "12", "", "67"},
		{[]int{2, 1}, "123", "4", "67"},
		{[]int{0, 2, 1}, "1", "45", "678"},
		{[]int{2, 2, 3}, "123", "45", "6789a"},
		{[]int{3, 9, 4}, "123", "45", "6789a"},
		{[]int{math.MaxInt, math.MaxInt, math.MaxInt}, "123", "45", "6789a"},
		{[]int{-1, -9, 2}, "1", "", "6789"},
		{[]int{math.MinInt, 1, math.MinInt}, "1", "4", "67"},
		{[]int{1, 1, 1, 5, 6}, "12", "4", "678"},
	} {
		d := with(t, [3]string{"e", "67", "89a"}, [3]string{"d", "xx", ""}, [3]string{"c", "", "45"}, [3]string{"b", "", ""}, [3]string{"a", "1", "23"})
		d.Fuse(5)
		given := slices.Clone(x.keep)
		d.Crash(x.keep)
		if !slices.Equal(x.keep, given) {
			t.Errorf("%v: the list has changed", given)
		}
		if !d.Down() {
			t.Errorf("%v: the power is on", x.keep)
		}
		again := d.Twin()
		again.Crash([]int{9, 9, 9, 9, 9})
		if !Same(d, again) {
			t.Errorf("%v: a second crash changes something", x.keep)
		}
		d.Start()
		if d.Down() || fuseOf(d) != 0 {
			t.Errorf("%v: the power is off, or a fuse is left", x.keep)
		}
		lists(t, d, "a", "b", "c", "d", "e")
		for name, bytes := range map[string]string{"a": x.a, "b": "", "c": x.c, "d": "xx", "e": x.e} {
			reads(t, d, name, bytes)
			if synced(d, name) != bytes {
				t.Errorf("%v: what is kept of %s is not synced", x.keep, name)
			}
		}
	}
}

func TestCrashByRisingNames(t *testing.T) {
	d := with(t, [3]string{"b", "", "xx"}, [3]string{"a0", "", "xx"}, [3]string{"a", "", "xx"}, [3]string{"a.", "", "xx"}, [3]string{"a-", "", "xx"})
	d.Crash([]int{0, 1, 2})
	d.Start()
	for name, bytes := range map[string]string{"a": "", "a-": "x", "a.": "xx", "a0": "", "b": ""} {
		reads(t, d, name, bytes)
	}
}

// What a crash cut is not seen again by what is appended behind it.
func TestAppendBehindACrash(t *testing.T) {
	d := with(t, [3]string{"a", "1", "2345"})
	d.Crash([]int{1})
	d.Start()
	want(t, "Append", d.Append("a", "x"), api.OK)
	reads(t, d, "a", "12x")
	if synced(d, "a") != "12" {
		t.Error("synced", synced(d, "a"))
	}
}

func TestStart(t *testing.T) {
	d := with(t, [3]string{"a", "1", "2"})
	d.Fuse(3)
	before := d.Twin()
	d.Start()
	if !Same(d, before) {
		t.Error("Start changes something while the power is on")
	}
	d.Fuse(1)
	want(t, "Append", d.Append("a", "3"), api.ErrDown)
	d.Start()
	reads(t, d, "a", "1")
	d.Start()
	reads(t, d, "a", "1")
}

// The chapter says of Fuse and Room that what they set is so, whatever the power; so chapter 29 gives a disk room ahead of its coming up.
func TestFuseAndRoomWhileThePowerIsOff(t *testing.T) {
	d := with(t, [3]string{"a", "1", ""})
	d.Crash(nil)
	d.Room(2)
	d.Fuse(2)
	d.Start()
	want(t, "Append", d.Append("a", "xy"), api.ErrFull)
	want(t, "Append", d.Append("a", "x"), api.OK)
	want(t, "Sync", d.Sync("a"), api.ErrDown)
	d.Fuse(2)
	d.Crash(nil)
	d.Start()
	if fuseOf(d) != 0 {
		t.Error("a fuse is left behind a crash")
	}
}

// P2.5

func TestTwin(t *testing.T) {
	d := with(t, [3]string{"a", "1", "2"}, [3]string{"b", "3", ""})
	d.Room(7)
	d.Fuse(9)
	both := func() (*Disk, *Disk) { return d.Twin(), d.Twin() }
	doings := append(calls(),
		call{"Append to b", func(d *Disk) api.Errno { return d.Append("b", "xyz") }},
		call{"Rename onto b", func(d *Disk) api.Errno { return d.Rename("a", "b") }},
		call{"Fuse", func(d *Disk) api.Errno { d.Fuse(1); return api.OK }},
		call{"Room", func(d *Disk) api.Errno { d.Room(1); return api.OK }},
		call{"Crash", func(d *Disk) api.Errno { d.Crash([]int{1}); return api.OK }})
	for _, c := range doings {
		x, y := both()
		if !Same(x, d) || !Same(y, d) || x == d || x == y {
			t.Fatal("no twins")
		}
		c.do(x)
		if !Same(y, d) {
			t.Errorf("%s of the one is done to the other", c.name)
		}
	}
	x, y := both()
	want(t, "the one", x.Append("a", "x"), api.OK)
	want(t, "the other", y.Append("a", "y"), api.OK)
	want(t, "itself", d.Append("a", "z"), api.OK)
	reads(t, x, "a", "12x")
	reads(t, y, "a", "12y")
	reads(t, d, "a", "12z")
	d.Crash([]int{1})
	x = d.Twin()
	if !x.Down() || !Same(x, d) {
		t.Error("the power of a twin")
	}
	x.Start()
	if !d.Down() {
		t.Error("Start of the one starts the other")
	}
}

// A twin has the same tails, fuse and room, not just the same bytes.
func TestTwinGoesOnAlike(t *testing.T) {
	d := with(t, [3]string{"a", "1", "2345"})
	d.Room(6)
	d.Fuse(2)
	x := d.Twin()
	for _, y := range []*Disk{x, d} {
		want(t, "above the room", y.Append("a", "xy"), api.ErrFull)
		want(t, "up to the room", y.Append("a", "x"), api.OK)
		want(t, "the fuse", y.Sync("a"), api.ErrDown)
		y.Crash([]int{2})
		y.Start()
		reads(t, y, "a", "123")
	}
	if !Same(x, d) {
		t.Error("they are not the same")
	}
}

func TestSame(t *testing.T) {
	base := func() *Disk { return with(t, [3]string{"a", "1", "2"}, [3]string{"b", "", ""}) }
	others := map[string]func(d *Disk){
		"a file more":       func(d *Disk) { d.Create("c") },
		"a file less":       func(d *Disk) { d.Remove("b") },
		"another name":      func(d *Disk) { d.Rename("b", "c") },
		"a byte more":       func(d *Disk) { d.Append("b", "x") },
		"no tail":           func(d *Disk) { d.Sync("a") },
		"another tail":      func(d *Disk) { d.Crash(nil); d.Start(); d.Append("a", "3") },
		"a tail that's cut": func(d *Disk) { d.Crash(nil); d.Start() },
		"names turned":      func(d *Disk) { d.Rename("a", "c"); d.Rename("b", "a"); d.Rename("c", "b") },
		"the power":         func(d *Disk) { d.Fuse(1); d.Sync("b") },
		"a fuse":            func(d *Disk) { d.Fuse(1) },
		"another fuse":      func(d *Disk) { d.Fuse(2) },
		"a room of none":    func(d *Disk) { d.Room(0) },
		"a room":            func(d *Disk) { d.Room(1) },
		"a great room":      func(d *Disk) { d.Room(math.MaxInt) },
	}
	if !Same(base(), base()) {
		t.Error("two that are made alike")
	}
	for x, do := range others {
		d, e := base(), base()
		do(d)
		if Same(d, e) || Same(e, d) {
			t.Errorf("%s is no matter", x)
		}
		if !Same(d, d) || !Same(d, d.Twin()) {
			t.Errorf("%s: not the same as itself", x)
		}
		for y, other := range others {
			f := base()
			other(f)
			if Same(d, f) != (x == y) {
				t.Errorf("%s, %s: %v", x, y, x != y)
			}
		}
	}
	alike := map[string]func(d *Disk){
		"no fuse":           func(d *Disk) { d.Fuse(-3) },
		"a fuse taken out":  func(d *Disk) { d.Fuse(3); d.Fuse(0) },
		"no room":           func(d *Disk) { d.Room(-7) },
		"a room taken away": func(d *Disk) { d.Room(7); d.Room(-1) },
		"a file and back":   func(d *Disk) { d.Create("c"); d.Remove("c") },
		"a name and back":   func(d *Disk) { d.Rename("a", "c"); d.Rename("c", "a") },
	}
	for x, do := range alike {
		d := base()
		do(d)
		if !Same(d, base()) {
			t.Errorf("%s is another one", x)
		}
	}
	if !Same(nil, nil) || Same(nil, New()) || Same(New(), nil) {
		t.Error("nil ones")
	}
}

// The bytes may be the same, and only where the tail begins another place.
func TestSameOfOtherTails(t *testing.T) {
	x := with(t, [3]string{"a", "12", "3"})
	y := with(t, [3]string{"a", "1", "23"})
	if Same(x, y) {
		t.Error("other tails")
	}
	want(t, "Sync", x.Sync("a"), api.OK)
	want(t, "Sync", y.Sync("a"), api.OK)
	if !Same(x, y) {
		t.Error("the same tails")
	}
}

// P2.6

func TestNilDisk(t *testing.T) {
	var d *Disk
	want(t, "Create", d.Create("a"), api.ErrNil)
	want(t, "Create of no name", d.Create("A"), api.ErrNil)
	want(t, "Append", d.Append("a", "x"), api.ErrNil)
	want(t, "Append of too much", d.Append("a", strings.Repeat("x", api.MaxFile+1)), api.ErrNil)
	want(t, "Sync", d.Sync("a"), api.ErrNil)
	want(t, "Rename", d.Rename("a", "A"), api.ErrNil)
	want(t, "Remove", d.Remove("a"), api.ErrNil)
	if s, e := d.Read("a"); s != "" || e != api.ErrNil {
		t.Errorf("Read: %q, error %d", s, e)
	}
	d.Fuse(1)
	d.Room(1)
	d.Crash([]int{1})
	d.Start()
	if len(d.List()) != 0 || d.Used() != 0 || !d.Down() || d.Twin() != nil {
		t.Error("a nil disk has something")
	}
}

// The chapter says nothing of a Disk that New did not make; that no call panics holds for it, too (rule R1).
func TestZeroDisk(t *testing.T) {
	if !Same(&Disk{}, New()) || !Same(New(), &Disk{}) {
		t.Error("not as a new one")
	}
	for _, c := range calls() {
		d := &Disk{}
		d.Crash([]int{1})
		d.Start()
		c.do(d)
		c.do(d.Twin())
	}
	d := &Disk{}
	want(t, "Create", d.Create("a"), api.OK)
	want(t, "Append", d.Append("a", "x"), api.OK)
	reads(t, d, "a", "x")
}

// P2.7

// slowFile is a file as the chapter words it.
type slowFile struct{ name, synced, tail string }

// slowDisk is a disk as the chapter words it: a list of files, and what else there is.
type slowDisk struct {
	files []slowFile
	off   bool
	fuse  int
	room  int
}

func (d *slowDisk) at(name string) int {
	return slices.IndexFunc(d.files, func(f slowFile) bool { return f.name == name })
}

func (d *slowDisk) used() int {
	n := 0
	for _, f := range d.files {
		n += len(f.synced) + len(f.tail)
	}
	return n
}

// refused is the error that a call's promise names; name is the first one that it is given.
func (d *slowDisk) refused(kind int, name, other string) api.Errno {
	right := func(s string) bool {
		return len(s) > 0 && len(s) <= 32 && strings.Trim(s, "abcdefghijklmnopqrstuvwxyz0123456789.-") == ""
	}
	i := d.at(name)
	switch {
	case d.off:
		return api.ErrDown
	case kind == 0 && !right(name):
		return api.ErrArg
	case kind == 0 && i >= 0:
		return api.ErrThere
	case kind == 0 && len(d.files) >= 256:
		return api.ErrFull
	case kind != 0 && i < 0:
		return api.ErrNone
	case kind == 1 && len(d.files[i].synced+d.files[i].tail+other) > 1<<20:
		return api.ErrLong
	case kind == 1 && d.room >= 0 && d.used()+len(other) > d.room:
		return api.ErrFull
	case kind == 3 && !right(other):
		return api.ErrArg
	}
	return api.OK
}

// do is a changing call: 0 Create, 1 Append, 2 Sync, 3 Rename, 4 Remove.
func (d *slowDisk) do(kind int, name, other string) api.Errno {
	if e := d.refused(kind, name, other); e != api.OK {
		return e
	}
	goes := d.fuse == 1
	if d.fuse > 0 {
		d.fuse--
	}
	d.off = goes
	i := d.at(name)
	if kind == 1 {
		d.files[i].tail += other
	}
	if goes {
		return api.ErrDown
	}
	switch kind {
	case 0:
		d.files = append(d.files, slowFile{name: name})
	case 2:
		d.files[i].synced += d.files[i].tail
		d.files[i].tail = ""
	case 3:
		f := d.files[i]
		d.files = slices.DeleteFunc(d.files, func(g slowFile) bool { return g.name == name || g.name == other })
		f.name = other
		d.files = append(d.files, f)
	case 4:
		d.files = slices.Delete(d.files, i, i+1)
	}
	slices.SortFunc(d.files, func(f, g slowFile) int { return strings.Compare(f.name, g.name) })
	return api.OK
}

func (d *slowDisk) crash(keep []int) {
	k := 0
	for i := range d.files {
		f := &d.files[i]
		if f.tail == "" {
			continue
		}
		n := 0
		if k < len(keep) {
			n = keep[k]
		}
		k++
		n = max(0, n)
		n = min(n, len(f.tail))
		f.synced, f.tail = f.synced+f.tail[:n], ""
	}
}

// differ says where a disk is another than the chapter's.
func (d *slowDisk) differ(x *Disk) string {
	var names []string
	for _, f := range d.files {
		names = append(names, f.name)
		if s := synced(x, f.name); s != f.synced {
			return f.name + " has synced " + strconv.Quote(s)
		}
		whole := x.Twin()
		whole.Crash(slices.Repeat([]int{math.MaxInt}, 256))
		whole.Start()
		if s, e := whole.Read(f.name); s != f.synced+f.tail || e != api.OK {
			return f.name + " has in all " + strconv.Quote(s)
		}
	}
	switch {
	case !slices.Equal(names, x.List()):
		return "names"
	case d.used() != x.Used():
		return "Used"
	case d.off != x.Down():
		return "Down"
	case d.fuse != fuseOf(x):
		return "the fuse is " + strconv.Itoa(fuseOf(x))
	}
	return ""
}

// dice are numbers that are the same for the same seed.
type dice uint32

func (d *dice) roll(n int) int {
	*d = *d*1664525 + 1013904223
	return int(*d>>8) % n
}

// guard looks at what each call must leave, whatever the chapter's disk is.
type guard struct {
	used  int
	room  int
	whole map[string]string
	firm  map[string]string
}

func watch(x *Disk, room int) guard {
	g := guard{x.Used(), room, map[string]string{}, map[string]string{}}
	whole := x.Twin()
	whole.Crash(slices.Repeat([]int{math.MaxInt}, 256))
	whole.Start()
	for _, name := range x.List() {
		g.whole[name], _ = whole.Read(name)
		g.firm[name] = synced(x, name)
	}
	return g
}

// crashed says whether files are as a crash may leave them.
func (g guard) crashed(x *Disk) bool {
	x = x.Twin()
	x.Start()
	for name, firm := range g.firm {
		s, e := x.Read(name)
		if e != api.OK || !strings.HasPrefix(s, firm) || !strings.HasPrefix(g.whole[name], s) {
			return false
		}
	}
	return len(x.List()) == len(g.firm)
}

// walk does one thing to a disk and to the chapter's; what it was, and the two errors.
func walk(r *dice, x *Disk, d *slowDisk) (what string, got, wanted api.Errno) {
	names := []string{"a", "b", "b-", "c.0", "d", "E", ""}
	name, other := names[r.roll(len(names))], names[r.roll(len(names))]
	data := "0123456789"[:r.roll(10)]
	switch kind := r.roll(18); kind {
	case 0, 5, 6:
		return "Create", x.Create(name), d.do(0, name, "")
	case 1, 7, 8, 9, 10:
		return "Append", x.Append(name, data), d.do(1, name, data)
	case 2, 11:
		return "Sync", x.Sync(name), d.do(2, name, "")
	case 3:
		return "Rename", x.Rename(name, other), d.do(3, name, other)
	case 4:
		return "Remove", x.Remove(name), d.do(4, name, "")
	case 12:
		n := r.roll(9) - 1
		x.Fuse(n)
		d.fuse = max(n, 0)
		return "Fuse", 0, 0
	case 13:
		n := r.roll(80) - 9
		x.Room(n)
		d.room = n
		return "Room", 0, 0
	case 14:
		keep := make([]int, r.roll(5))
		for i := range keep {
			keep[i] = r.roll(12) - 2
		}
		x.Crash(keep)
		d.crash(keep)
		d.off, d.fuse = true, 0
		return "Crash", 0, 0
	}
	x.Start()
	if d.off {
		d.crash(nil)
		d.off = false
	}
	return "Start", 0, 0
}

func TestAsTheChapterWordsIt(t *testing.T) {
	for seed := range 60 {
		r := dice(seed)
		x, d := New(), &slowDisk{room: -1}
		for i := range 300 {
			g, before, off := watch(x, d.room), x.Twin(), x.Down()
			what, got, wanted := walk(&r, x, d)
			if got != wanted {
				t.Fatalf("seed %d, step %d: %s: error %d, not %d", seed, i, what, got, wanted)
			}
			if s := d.differ(x); s != "" {
				t.Fatalf("seed %d, step %d: %s: %s", seed, i, what, s)
			}
			if got == api.OK && x.Used() > g.used && g.room >= 0 && x.Used() > g.room {
				t.Fatalf("seed %d, step %d: %s: Used is above the room", seed, i, what)
			}
			if (what == "Crash" || what == "Start") && !g.crashed(x) {
				t.Fatalf("seed %d, step %d: %s: not as a crash leaves it", seed, i, what)
			}
			if off && got != api.OK && !Same(x, before) || got != api.OK && got != api.ErrDown && !Same(x, before) {
				t.Fatalf("seed %d, step %d: %s: changed, with the error %d", seed, i, what, got)
			}
		}
	}
}

func TestSyncedStays(t *testing.T) {
	d := with(t, [3]string{"a", "firm", ""})
	for i := range 50 {
		d.Fuse(i % 4)
		d.Append("a", "loose")
		d.Create("b")
		d.Rename("b", "c")
		d.Remove("c")
		d.Crash([]int{0, 9})
		d.Start()
		reads(t, d, "a", "firm")
	}
	want(t, "Create", d.Create("b"), api.OK)
	want(t, "renamed upon", d.Rename("b", "a"), api.OK)
	reads(t, d, "a", "")
}

// Rules R3 and R4

// within says whether a text's bytes lie in another's memory.
func within(s, memory string) bool {
	p, begin := uintptr(unsafe.Pointer(unsafe.StringData(s))), uintptr(unsafe.Pointer(unsafe.StringData(memory)))
	return p >= begin && p < begin+uintptr(len(memory))
}

func TestNamesAreNewMemory(t *testing.T) {
	memory := strings.Clone("created renamed data")
	d := New()
	want(t, "Create", d.Create(memory[:7]), api.OK)
	want(t, "Append", d.Append(memory[:7], memory[16:]), api.OK)
	want(t, "Create", d.Create("x"), api.OK)
	want(t, "Rename", d.Rename("x", memory[8:15]), api.OK)
	want(t, "Sync", d.Sync(memory[:7]), api.OK)
	want(t, "Rename", d.Rename(memory[:7], memory[:7]), api.OK)
	for _, x := range []*Disk{d, d.Twin()} {
		one, two := x.List(), x.List()
		for i := range one {
			if within(one[i], memory) || within(two[i], memory) || within(one[i], two[i]) {
				t.Errorf("%s lies in other memory", one[i])
			}
		}
		for name := range x.files {
			if within(name, memory) {
				t.Errorf("%s is kept in other memory", name)
			}
		}
		one[0] = "other"
		lists(t, x, "created", "renamed")
	}
	one, _ := d.Read("created")
	two, _ := d.Read("created")
	if within(one, memory) || within(one, two) {
		t.Error("what is read lies in other memory")
	}
}

func TestReadDoesNotChangeAnyMore(t *testing.T) {
	d := with(t, [3]string{"a", "1", "23"})
	s, _ := d.Read("a")
	d.Crash(nil)
	d.Start()
	want(t, "Append", d.Append("a", "xyz"), api.OK)
	if s != "123" {
		t.Errorf("what was read is now %q", s)
	}
}

func TestDisksKnowNothingOfOneAnother(t *testing.T) {
	d, e := New(), New()
	want(t, "Create", d.Create("a"), api.OK)
	d.Room(0)
	d.Fuse(1)
	d.Crash(nil)
	if !Same(e, New()) {
		t.Error("what is done to the one is done to the other")
	}
}
