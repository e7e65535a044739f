package manifest

import (
	"fmt"
	"math"
	"math/rand/v2"
	"slices"
	"strings"
	"testing"

	"redress/api"
	"redress/disk"
	"redress/sum"
)

// want says where a call's error is another one.
func want(t *testing.T, what string, got, wanted api.Errno) {
	t.Helper()
	if got != wanted {
		t.Errorf("%s: error %d, not %d", what, got, wanted)
	}
}

// open is a manifest that Open must make.
func open(t *testing.T, d *disk.Disk) *Manifest {
	t.Helper()
	m, e := Open(d)
	if m == nil || e != api.OK {
		t.Fatalf("Open: error %d", e)
	}
	return m
}

// has says where a manifest's state is another one.
func has(t *testing.T, what string, m *Manifest, wanted State) {
	t.Helper()
	if got := m.State(); !same(got, wanted) {
		t.Errorf("%s: state %s, not %s", what, short(got), short(wanted))
	}
}

// keeps says where a manifest that is opened on a twin of a disk has another state.
func keeps(t *testing.T, what string, d *disk.Disk, wanted State) {
	t.Helper()
	d = d.Twin()
	d.Fuse(0)
	d.Start()
	has(t, what+", opened again", open(t, d), wanted)
}

// commits makes a Commit that must answer OK, and is the state behind it.
func commits(t *testing.T, d *disk.Disk, m *Manifest, e Edit) State {
	t.Helper()
	wanted, no := slowly(m.State(), e)
	want(t, "the edit by the words", no, api.OK)
	want(t, fmt.Sprint("Commit ", e), m.Commit(e), api.OK)
	has(t, "behind a commit", m, wanted)
	keeps(t, "behind a commit", d, wanted)
	return wanted
}

// refuses says where Commit answers another error, or something has changed.
func refuses(t *testing.T, what string, d *disk.Disk, m *Manifest, e Edit, wanted api.Errno) {
	t.Helper()
	before, state := d.Twin(), m.State()
	want(t, what, m.Commit(e), wanted)
	if !disk.Same(d, before) {
		t.Errorf("%s: the disk has changed", what)
	}
	has(t, what, m, state)
}

// add is an edit that adds tables of level 0, and raises Next for them.
func add(from, n int) Edit { return Edit{Add: many(n, from, 0), Next: from + n, Log: from} }

// fill puts other files on a disk till it has so many in all.
func fill(t *testing.T, d *disk.Disk, files int) {
	t.Helper()
	for i := 0; len(d.List()) < files; i++ {
		want(t, "Create", d.Create(fmt.Sprint("other", i)), api.OK)
	}
}

// others is what a disk has in all files but a manifest's.
func others(d *disk.Disk) map[string]string {
	d = d.Twin()
	d.Crash(slices.Repeat([]int{math.MaxInt}, api.MaxFiles))
	d.Start()
	m := map[string]string{}
	for _, name := range d.List() {
		if !strings.HasPrefix(name, "manifest.") {
			m[name], _ = d.Read(name)
		}
	}
	return m
}

func TestExamplesOnADisk(t *testing.T) {
	d := disk.New()
	m := open(t, d)
	has(t, "a new one", m, State{Next: 1})
	refuses(t, "Drop 1", d, m, Edit{Drop: []int{1}}, api.ErrNone)
	refuses(t, "Add F, too early", d, m, Edit{Add: []File{tableF}}, api.ErrArg)
	commits(t, d, m, Edit{Add: []File{tableF}, Next: 2})
	has(t, "Add F", m, State{Next: 2, Files: []File{tableF}})
	refuses(t, "Add F again", d, m, Edit{Add: []File{tableF}}, api.ErrThere)
	commits(t, d, m, Edit{Drop: []int{1}, Add: []File{tableG}, Next: 3, Log: 5})
	has(t, "Drop F, Add G", m, State{Next: 3, Log: 5, Files: []File{tableG}})
}

// P8.2

func TestOpenErrors(t *testing.T) {
	if m, e := Open(nil); m != nil || e != api.ErrNil {
		t.Errorf("Open of no disk: %v, error %d", m, e)
	}
	off, bad := disk.New(), disk.New()
	off.Crash(nil)
	want(t, "Create", bad.Create(main), api.OK)
	for what, x := range map[string]*disk.Disk{"no power": off, "bad files": bad} {
		wanted := api.ErrDown
		if x == bad {
			wanted = api.ErrBad
		}
		before := x.Twin()
		if m, e := Open(x); m != nil || e != wanted || !disk.Same(x, before) {
			t.Errorf("Open, %s: %v, error %d", what, m, e)
		}
	}
	want(t, "Create", bad.Create("manifest.other"), api.OK)
	bad.Crash(nil)
	if m, e := Open(bad); m != nil || e != api.ErrDown {
		t.Errorf("Open of bad files without power: %v, error %d", m, e)
	}
}

// A manifest is opened where there is neither room nor a file to be had, and changes nothing there.
func TestOpenWithoutFiles(t *testing.T) {
	d := disk.New()
	for _, name := range []string{"manifest", "manifests.main", "manifest-main", "a.manifest.", "log.main", "table.1", "main", "mani"} {
		want(t, "Create", d.Create(name), api.OK)
		want(t, "Append", d.Append(name, "something"), api.OK)
	}
	fill(t, d, api.MaxFiles)
	d.Room(0)
	d.Fuse(1)
	before := d.Twin()
	m := open(t, d)
	has(t, "a new one", m, State{Next: 1})
	if !disk.Same(d, before) {
		t.Errorf("Open has changed something")
	}
	d.Fuse(0)
	refuses(t, "a full disk", d, m, add(1, 1), api.ErrFull)
}

// Other files are left as they are, with their tails, by whatever a manifest does.
func TestOtherFiles(t *testing.T) {
	d := disk.New()
	for i, name := range []string{"manifest", "manifests.main", "a", "x.manifest.new", "zz"} {
		want(t, "Create", d.Create(name), api.OK)
		want(t, "Append", d.Append(name, "synced"), api.OK)
		if i%2 == 0 {
			want(t, "Sync", d.Sync(name), api.OK)
		}
		want(t, "Append", d.Append(name, "tail"), api.OK)
	}
	untouched := d.Twin()
	m := open(t, d)
	for i := range 9 {
		commits(t, d, m, add(3*i+1, 3))
		refuses(t, "no table", d, m, Edit{Drop: []int{999}}, api.ErrNone)
		d.Room(d.Used())
		want(t, "a full disk", m.Commit(add(100, 50)), api.ErrFull)
		d.Room(-1)
		m = open(t, d)
	}
	for _, name := range d.List() {
		if strings.HasPrefix(name, "manifest.") {
			want(t, "Remove", d.Remove(name), api.OK)
		}
	}
	if !disk.Same(d, untouched) {
		t.Errorf("other files have changed")
	}
}

// Files of such names that no manifest left behind are refused, and stay.
func TestOpenBad(t *testing.T) {
	frames := func(bodies ...string) string {
		s := ""
		for _, body := range bodies {
			frame, _ := sum.Frame(body)
			s += frame
		}
		return s
	}
	right := text(State{Next: 3, Log: 1, Files: []File{tableF, tableG}})
	for what, s := range map[string]string{
		"nothing":             "",
		"some text":           "a manifest",
		"noughts":             strings.Repeat("\x00", 100),
		"a frame":             frames("1"),
		"one text less":       frames("1", "0"),
		"one text more":       frames("1", "0", "0", ""),
		"one more behind":     right + frames(""),
		"a byte behind":       right + "x",
		"a byte less":         right[:len(right)-1],
		"another text behind": right + right,
		"a wrong state":       text(State{}),
		"a wrong table":       text(State{Next: 2, Files: []File{{1, 0, 1, "a", "b"}}}),
		"tables that meet":    text(State{Next: 9, Files: []File{{1, 1, 2, "a", "c"}, {2, 1, 2, "b", "d"}}}),
		"Next too great":      text(State{Next: 1<<40 + 1}),
		"a number too great":  frames("99999999999999999999", "0", "0"),
		"a greatest number":   frames("9223372036854775807", "0", "0"),
		"a sign":              frames("+1", "0", "0"),
		"a nought ahead":      frames("01", "0", "0"),
		"no number":           frames("x", "0", "0"),
		"no number of Log":    frames("1", "", "0"),
		"fewer tables":        frames("3", "1", "2", "1", "0", "2", "a", "c"),
		"more tables":         frames("3", "1", "0", "1", "0", "2", "a", "c"),
		"a part of a table":   frames("3", "1", "1", "1", "0", "2", "a"),
		"a long key":          frames("3", "1", "1", "1", "0", "2", "a", strings.Repeat("z", api.MaxRecord)),
	} {
		d := disk.New()
		want(t, "Create", d.Create(main), api.OK)
		want(t, "Append", d.Append(main, s), api.OK)
		before := d.Twin()
		if m, e := Open(d); m != nil || e != api.ErrBad || !disk.Same(d, before) {
			t.Errorf("Open, %s: %v, error %d, or something has changed", what, m, e)
		}
	}
	for i := range len(right) {
		for _, turned := range []byte{1, 0x20, 0x80, 0xff} {
			b := []byte(right)
			b[i] ^= turned
			d := disk.New()
			want(t, "Create", d.Create(main), api.OK)
			want(t, "Append", d.Append(main, string(b)), api.OK)
			if _, e := Open(d); e != api.ErrBad {
				t.Errorf("Open with byte %d turned: error %d", i, e)
			}
		}
		d := disk.New()
		want(t, "Create", d.Create(main), api.OK)
		want(t, "Append", d.Append(main, right[:i]), api.OK)
		if _, e := Open(d); e != api.ErrBad {
			t.Errorf("Open of the first %d bytes: error %d", i, e)
		}
	}
	for _, name := range []string{"manifest.", "manifest.1", "manifest.newer", "manifest.old", "manifest.main."} {
		d := disk.New()
		commits(t, d, open(t, d), add(1, 1))
		want(t, "Create", d.Create(name), api.OK)
		before := d.Twin()
		if m, e := Open(d); m != nil || e != api.ErrBad || !disk.Same(d, before) {
			t.Errorf("Open beside %s: error %d, or something has changed", name, e)
		}
	}
}

// P8.3

func TestNotMade(t *testing.T) {
	for what, m := range map[string]*Manifest{"none": nil, "not made": {}} {
		if got := m.State(); !same(got, State{}) {
			t.Errorf("State, %s: %v", what, got)
		}
		want(t, "Commit, "+what, m.Commit(Edit{}), api.ErrNil)
		want(t, "Commit of what is wrong, "+what, m.Commit(Edit{Drop: []int{1}}), api.ErrNil)
		want(t, "Commit of much, "+what, m.Commit(add(1, 9)), api.ErrNil)
	}
}

func TestCommits(t *testing.T) {
	d := disk.New()
	m := open(t, d)
	commits(t, d, m, Edit{})
	commits(t, d, m, Edit{Next: 7})
	commits(t, d, m, Edit{Next: 3, Log: 9})
	commits(t, d, m, Edit{Log: 2})
	has(t, "Next and Log", m, State{Next: 7, Log: 9})
	commits(t, d, m, Edit{Add: []File{{6, 3, 2, "\x00", "\xff"}, {2, 0, 1, strings.Repeat("\n", 128), strings.Repeat("\n", 128)}}})
	commits(t, d, m, Edit{Next: 1 << 40, Log: 1 << 40, Add: []File{{1<<40 - 1, 0, 4096, "a", "b"}}, Drop: []int{6}})
	s := State{1 << 40, 1 << 40, []File{{2, 0, 1, strings.Repeat("\n", 128), strings.Repeat("\n", 128)}, {1<<40 - 1, 0, 4096, "a", "b"}}}
	has(t, "all of it", m, s)
	for range 3 {
		m = open(t, d)
		has(t, "opened again", m, s)
		commits(t, d, m, Edit{})
	}
}

// longest is a state whose text is as long as one can be.
func longest() State {
	s := State{Next: 1 << 40, Log: 1 << 40}
	for i := range Most {
		key := fmt.Sprintf("%03d", i) + strings.Repeat("\xff", 124)
		s.Files = append(s.Files, File{1<<40 - Most + i, 1, 4096, key + "a", key + "b"})
	}
	return s
}

func TestLongest(t *testing.T) {
	d := disk.New()
	m := open(t, d)
	s := longest()
	checks(t, "the longest", s, api.OK)
	for range 2 {
		want(t, "Commit", m.Commit(Edit{Add: s.Files, Next: s.Next, Log: s.Log}), api.OK)
		has(t, "all", m, s)
		keeps(t, "all", d, s)
		var all []int
		for _, f := range s.Files {
			all = append(all, f.N)
		}
		want(t, "Commit", m.Commit(Edit{Drop: all}), api.OK)
		has(t, "none", m, State{Next: 1 << 40, Log: 1 << 40})
		keeps(t, "none", d, State{Next: 1 << 40, Log: 1 << 40})
	}
}

func TestFull(t *testing.T) {
	for _, files := range []int{0, 1, 199} {
		d := disk.New()
		m := open(t, d)
		s := State{Next: 1}
		if files > 0 {
			s = commits(t, d, m, add(1, files))
		}
		last := Edit{Drop: nil, Next: 500, Log: 500}
		for room := d.Used(); ; room++ {
			d.Room(room)
			before := d.Twin()
			e := m.Commit(last)
			if e == api.OK {
				break
			}
			want(t, "Commit without room", e, api.ErrFull)
			if !disk.Same(d, before) || room > api.MaxFile {
				t.Fatalf("room %d: the disk has changed, or is large enough", room)
			}
			has(t, "without room", m, s)
			if room > 300 {
				room += 97
			}
		}
		s.Next, s.Log = 500, 500
		has(t, "with room", m, s)
		keeps(t, "with room", d, s)
		d.Room(-1)
		fill(t, d, api.MaxFiles)
		refuses(t, "without files", d, m, add(500, 1), api.ErrFull)
		refuses(t, "wrong ahead of full", d, m, Edit{Drop: []int{400}}, api.ErrNone)
		want(t, "Remove", d.Remove("other0"), api.OK)
		want(t, "Remove", d.Remove("other1"), api.OK)
		commits(t, d, m, Edit{Next: 501})
	}
}

// The power may go where a commit takes back what it began for want of room.
func TestFullAndDown(t *testing.T) {
	for fuse := 1; fuse <= 2; fuse++ {
		d := disk.New()
		m := open(t, d)
		s := commits(t, d, m, add(1, 2))
		d.Room(d.Used() + 1)
		d.Fuse(fuse)
		want(t, "Commit", m.Commit(add(5, 9)), api.ErrDown)
		has(t, "as it was", m, s)
		d.Start()
		want(t, "Commit of a dead one", m.Commit(Edit{}), api.ErrDown)
		keeps(t, "as it was", d, s)
		d.Room(-1)
		commits(t, d, open(t, d), add(5, 9))
	}
}

// A dead manifest answers ErrDown, whatever it is asked, and tells what it had.
func TestDead(t *testing.T) {
	d := disk.New()
	m := open(t, d)
	s := commits(t, d, m, add(1, 3))
	d.Fuse(2)
	want(t, "Commit", m.Commit(add(4, 1)), api.ErrDown)
	for range 2 {
		refuses(t, "a dead one", d, m, add(4, 1), api.ErrDown)
		refuses(t, "a dead one, nothing", d, m, Edit{}, api.ErrDown)
		refuses(t, "a dead one, none", d, m, Edit{Drop: []int{9}}, api.ErrDown)
		refuses(t, "a dead one, there", d, m, Edit{Add: []File{tableF}}, api.ErrDown)
		refuses(t, "a dead one, wrong", d, m, Edit{Log: math.MaxInt}, api.ErrDown)
		has(t, "a dead one", m, s)
		d.Start()
		fill(t, d, api.MaxFiles)
	}
}

// While the power is off nothing is committed, and whoever tried is dead. An edit that can't be applied is that first: nothing was cut, so the manifest isn't dead.
func TestPowerOff(t *testing.T) {
	for _, wanted := range []State{{Next: 1}, {Next: 4, Log: 1, Files: many(3, 1, 0)}} {
		d := disk.New()
		m := open(t, d)
		if wanted.Next > 1 {
			commits(t, d, m, add(1, 3))
		}
		d.Crash(nil)
		has(t, "without power", m, wanted)
		refuses(t, "none, without power", d, m, Edit{Drop: []int{99}}, api.ErrNone)
		refuses(t, "without power", d, m, Edit{Next: 9}, api.ErrDown)
		d.Start()
		refuses(t, "with power, but dead", d, m, Edit{Next: 9}, api.ErrDown)
		commits(t, d, open(t, d), Edit{Next: 9})
	}
}

// The power went and came again, and nothing was cut: a manifest goes on, since all that it keeps was synced.
func TestPowerCameAgain(t *testing.T) {
	d := disk.New()
	m := open(t, d)
	for i := range 5 {
		d.Crash(nil)
		d.Start()
		commits(t, d, m, add(3*i+1, 3))
		d.Fuse(1)
		want(t, "Create", d.Create("a"), api.ErrDown)
		d.Start()
	}
	has(t, "five commits", m, State{Next: 16, Log: 13, Files: manyOf(5, 3)})
}

// manyOf is tables of level 0, some times some.
func manyOf(times, n int) []File {
	var l []File
	for i := range times {
		l = append(l, many(n, n*i+1, 0)...)
	}
	return l
}

// A file that came from elsewhere has a tail: Open makes it stay. Where a manifest's file was cut, or is gone, it is dead.
func TestCut(t *testing.T) {
	d := disk.New()
	s := commits(t, d, open(t, d), add(1, 3))
	kept, _ := d.Read(main)
	copied := disk.New()
	want(t, "Create", copied.Create(main), api.OK)
	want(t, "Append", copied.Append(main, kept), api.OK)
	m := open(t, copied)
	copied.Crash(nil)
	copied.Start()
	has(t, "copied", m, s)
	keeps(t, "copied", copied, s)
	commits(t, copied, m, add(4, 1))

	want(t, "Append", d.Append(main, "x"), api.OK)
	refuses(t, "longer", d, open(t, copied), Edit{Drop: []int{9}}, api.ErrNone)
	for what, spoil := range map[string]func(d *disk.Disk){
		"gone":    func(d *disk.Disk) { d.Remove(main) },
		"longer":  func(d *disk.Disk) { d.Append(main, "x") },
		"another": func(d *disk.Disk) { d.Rename("other0", main) },
		"cut": func(d *disk.Disk) {
			s, _ := d.Read(main)
			d.Remove(main)
			d.Create(main)
			d.Append(main, s[:len(s)-1])
		},
	} {
		d := disk.New()
		m := open(t, d)
		s := commits(t, d, m, add(1, 3))
		fill(t, d, 2)
		spoil(d)
		refuses(t, what, d, m, Edit{}, api.ErrDown)
		refuses(t, what, d, m, Edit{Drop: []int{9}}, api.ErrDown)
		has(t, what, m, s)
	}
}

// A manifest goes on beside one that was opened later; once that one commits, the older one is dead, lest it undo what was committed.
func TestTwoOfOneDisk(t *testing.T) {
	d := disk.New()
	m := open(t, d)
	commits(t, d, m, add(1, 1))
	n := open(t, d)
	commits(t, d, m, add(2, 1))
	refuses(t, "the one that is behind", d, n, add(3, 1), api.ErrDown)
	n = open(t, d)
	s := commits(t, d, n, add(3, 1))
	refuses(t, "the other one", d, m, add(4, 1), api.ErrDown)
	keeps(t, "both", d, s)
	a, b := open(t, disk.New()), open(t, disk.New())
	want(t, "Commit", a.Commit(add(1, 2)), api.OK)
	has(t, "another disk's", b, State{Next: 1})
}

// P8.4

// edits are such that each can be committed behind those ahead of it.
func edits() []Edit {
	return []Edit{
		{}, add(1, 1), {Log: 7}, {Drop: []int{1}}, add(2, 3), {Drop: []int{3}, Add: []File{{3, 2, 2, "a", "b"}, {9, 2, 1, "c", "c"}}, Next: 12},
		add(20, 150), {Drop: []int{20, 21, 22, 4}, Log: 100, Next: 300}, {Next: 1 << 40}, {},
	}
}

// The power goes at each change of the disk in each commit, and tails are cut at any place: what is opened is what was committed, or one edit more, whole; so, too, where the power goes in the openings behind.
func TestPowerGoes(t *testing.T) {
	d := disk.New()
	for i, edit := range edits() {
		before := open(t, d).State()
		behind, no := slowly(before, edit)
		if no != api.OK {
			behind, no = Apply(before, edit)
		}
		want(t, "the edit", no, api.OK)
		for fuse := 1; ; fuse++ {
			torn := d.Twin()
			m := open(t, torn)
			torn.Fuse(fuse)
			e := m.Commit(edit)
			torn.Fuse(0)
			if e == api.OK {
				break
			}
			want(t, "Commit", e, api.ErrDown)
			has(t, "the dead one", m, before)
			for _, keep := range []int{0, 1, 2, 7, 8, 9, 20, 30, 50, 100, 1000, 5000, math.MaxInt} {
				cut := torn.Twin()
				cut.Crash(slices.Repeat([]int{keep}, 9))
				cut.Start()
				what := fmt.Sprint("edit ", i, ", fuse ", fuse, ", tails of ", keep)
				opensBehind(t, what, cut, before, behind, edit)
			}
			if fuse > 20 {
				t.Fatal("the power goes and goes")
			}
		}
		want(t, "Commit", open(t, d).Commit(edit), api.OK)
		keeps(t, "committed", d, behind)
	}
}

// opensBehind opens a manifest behind a crash, also with the power going in that, and commits what was lost.
func opensBehind(t *testing.T, what string, d *disk.Disk, before, behind State, edit Edit) {
	t.Helper()
	for fuse := 1; ; fuse++ {
		d.Fuse(fuse)
		m, e := Open(d)
		if e == api.OK {
			d.Fuse(0)
			got := m.State()
			if !same(got, before) && !same(got, behind) {
				t.Errorf("%s, fuse %d: %v is neither of both", what, fuse, got)
			}
			if same(got, before) {
				want(t, what+": Commit", m.Commit(edit), api.OK)
			}
			has(t, what, m, behind)
			keeps(t, what, d, behind)
			if left := len(d.List()); left != 1 {
				t.Errorf("%s: %d files are left", what, left)
			}
			return
		}
		want(t, what+": Open", e, api.ErrDown)
		if m != nil {
			t.Errorf("%s: a manifest beside an error", what)
		}
		d.Crash([]int{fuse, 1})
		d.Start()
	}
}

// What a crash left is taken away when a manifest is opened: it would need room.
func TestSwept(t *testing.T) {
	d := disk.New()
	m := open(t, d)
	commits(t, d, m, add(1, 9))
	used := d.Used()
	d.Fuse(3)
	want(t, "Commit", m.Commit(add(20, 90)), api.ErrDown)
	d.Crash([]int{2000})
	d.Start()
	if d.Used() == used {
		t.Errorf("nothing was left")
	}
	open(t, d)
	if d.Used() != used {
		t.Errorf("%d bytes, not %d", d.Used(), used)
	}
	// Another manifest of the disk, which was opened earlier, goes on beside what is left.
	early := open(t, d)
	d.Fuse(4) // of which Open takes one
	want(t, "Commit", open(t, d).Commit(add(20, 9)), api.ErrDown)
	d.Crash([]int{100})
	d.Start()
	commits(t, d, early, add(20, 3))
}

// Long rows of calls, with the power going anywhere, against the chapter's words.
func TestRows(t *testing.T) {
	told := map[api.Errno]int{}
	for seed := range uint64(150) {
		r := rand.New(rand.NewPCG(seed, 83))
		d := disk.New()
		if r.IntN(2) == 0 {
			fill(t, d, api.MaxFiles-r.IntN(3))
		}
		kept := others(d)
		m, s, dead := open(t, d), State{Next: 1}, false
		for step := range 60 {
			what := fmt.Sprint("seed ", seed, ", step ", step)
			edit := anEdit(r, s)
			wanted, no := slowly(s, edit)
			if r.IntN(4) == 0 {
				d.Fuse(1 + r.IntN(6))
			}
			if r.IntN(4) == 0 {
				d.Room(d.Used() + r.IntN(600))
			}
			e := m.Commit(edit)
			told[e]++
			d.Room(-1)
			d.Fuse(0)
			switch {
			case dead:
				want(t, what+": a dead one", e, api.ErrDown)
			case no != api.OK:
				want(t, what+": Commit", e, no)
			case e == api.OK:
				s = wanted
			case e == api.ErrDown:
				dead = true
			default:
				want(t, what+": Commit", e, api.ErrFull)
			}
			has(t, what, m, s)
			if d.Down() || r.IntN(5) == 0 {
				d.Crash([]int{r.IntN(300), r.IntN(300)})
				d.Start()
			}
			if dead && r.IntN(2) == 0 || r.IntN(6) == 0 {
				m = open(t, d)
				if got := m.State(); !same(got, s) && !(dead && same(got, wanted)) {
					t.Fatalf("%s: %v, not %v, nor %v", what, got, s, wanted)
				}
				s, dead = m.State(), false
			}
			if s.Log >= 1<<39 {
				break
			}
		}
		if got := others(d); fmt.Sprint(got) != fmt.Sprint(kept) {
			t.Errorf("seed %d: other files have changed", seed)
		}
		if t.Failed() {
			t.Fatalf("seed %d", seed)
		}
	}
	for _, no := range []api.Errno{api.OK, api.ErrArg, api.ErrNone, api.ErrThere, api.ErrFull, api.ErrDown} {
		if told[no] < 50 {
			t.Errorf("error %d came %d times only", no, told[no])
		}
	}
}

// R4: what State tells, and what Commit was handed, shares no memory with what the manifest keeps, or tells again.
func TestStateOwnMemory(t *testing.T) {
	d := disk.New()
	m := open(t, d)
	key := strings.Repeat("k", 9)
	e := Edit{Add: append(make([]File, 0, 9), File{1, 0, 1, key, key}, File{2, 0, 2, key[:3], key}), Drop: []int{}, Next: 3}
	want(t, "Commit", m.Commit(e), api.OK)
	wanted := State{Next: 3, Files: []File{{1, 0, 1, "kkkkkkkkk", "kkkkkkkkk"}, {2, 0, 2, "kkk", "kkkkkkkkk"}}}
	clear(e.Add[:9])
	has(t, "the edit's list is cleared", m, wanted)
	one, two := m.State(), m.State()
	texts := []string{key}
	for _, f := range one.Files {
		texts = append(texts, f.First, f.Last)
	}
	ownKeys(t, two, texts)
	ownKeys(t, one, []string{key})
	clear(one.Files[:cap(one.Files)])
	has(t, "what was told is cleared", m, wanted)
	if !same(two, wanted) {
		t.Errorf("two lists that were told are one")
	}
	want(t, "Commit", m.Commit(Edit{Drop: []int{1}}), api.OK)
	if !same(two, wanted) {
		t.Errorf("what was told has changed")
	}
}
