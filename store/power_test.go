package store

import (
	"fmt"
	"maps"
	"math"
	"slices"
	"testing"

	"redress/api"
	"redress/disk"
	"redress/table"
)

// scene is a call of a store, and the disk on which it is made.
type scene struct {
	d     *disk.Disk
	h     has           // what the store has
	batch []table.Entry // what the call writes
	call  func(s *Store) api.Errno
}

// writing is a scene of a Write.
func writing(d *disk.Disk, h has, l []table.Entry) scene {
	return scene{d, h, l, func(s *Store) api.Errno { return s.Write(l) }}
}

func flushing(s *Store) api.Errno   { return s.Flush() }
func compacting(s *Store) api.Errno { _, e := s.Compact(); return e }

// wide is entries of keys from all over, that are of some bytes together.
func wide(from, n, value int) []table.Entry { return numbered(from, n, 97, value) }

// scenes are calls of all kinds.
func scenes(t *testing.T) map[string]scene {
	t.Helper()
	m := map[string]scene{}
	begun := func(batches ...[]table.Entry) (*disk.Disk, has) {
		d := disk.New()
		return d, writes(t, opens(t, "a new one", d), nil, batches...)
	}
	some := [][]table.Entry{entriesOf("a 1 b 2"), entriesOf("b - c 3"), entriesOf("d 4")}

	d, h := begun()
	m["the first Write"] = writing(d, h, entriesOf("a 1 b 2"))
	d, h = begun(some...)
	m["a Write"] = writing(d, h, entriesOf("a - b 5 e 6"))
	m["an empty Write"] = writing(d, h, nil)
	m["a Write too long for a record"] = writing(d, h, long(70000))
	m["a Write of two tables"] = writing(d, h, long(table.Bytes))
	m["a Flush"] = scene{d, h, nil, flushing}
	m["nothing to compact"] = scene{d, h, nil, compacting}
	d, h = begun(numbered(0, 60, 1, 300), numbered(0, 3, 1, 4))
	m["a Write into another file of the log"] = writing(d, h, entriesOf("a 1 b 2"))
	d, h = begun(numbered(0, 64, 1, 500), numbered(9, 60, 1, 500), gone(numbered(3, 9, 2, 0)))
	m["a Write behind which it is flushed"] = writing(d, h, entriesOf("k000001 1 k000003 5"))
	m["a Flush of more"] = scene{d, h, nil, flushing}
	d, h = begun(gone(some[0]), gone(some[2]))
	m["a Flush to nothing"] = scene{d, h, nil, flushing}

	zero := []laid{{0, entriesOf("a 1 b 1")}, {0, entriesOf("b - c 2")}, {0, entriesOf("d 3")}, {0, entriesOf("a - e 4")}}
	d, h = lays(t, zero...)
	m["a Compact of level 0"] = scene{d, h, nil, compacting}
	d, h = lays(t, append([]laid{{2, entriesOf("b 0")}, {1, entriesOf("a 0 c 0")}, {1, entriesOf("d 0 f 0")}}, zero...)...)
	m["a Compact of levels 0 and 1"] = scene{d, h, nil, compacting}
	d, h = lays(t, append([]laid{{1, entriesOf("b 0")}}, zero...)...)
	h = writes(t, opens(t, "laid", d), h, numbered(0, 64, 1, 900), entriesOf("b 7"))
	m["a Write that flushes and compacts"] = writing(d, h, numbered(5, 64, 1, 900))
	m["a Write that compacts, too long for a record"] = writing(d, h, long(80000))
	return m
}

// deep are scenes of a Compact between the deeper levels, with much in them.
func deep(t *testing.T) map[string]scene {
	t.Helper()
	m := map[string]scene{}
	d, h := lays(t, laid{2, entriesOf("k000001 0 k000098 0 z 0")}, laid{1, wide(1, 30, 9000)}, laid{1, wide(4000, 30, 9000)})
	m["a Compact of levels 1 and 2"] = scene{d, h, nil, compacting}
	var rows []laid
	for i := range 10 {
		rows = append(rows, laid{2, numbered(100*i, 31, 3, 16000)})
	}
	d, h = lays(t, append(rows, laid{3, numbered(20, 20, 4, 3)}, laid{3, numbered(200, 20, 4, 3)})...)
	m["a Compact of levels 2 and 3"] = scene{d, h, nil, compacting}
	return m
}

// cuts are disks that crashes may leave of one, as far as they are others, with their power on again.
func cuts(d *disk.Disk, keeps ...int) []*disk.Disk {
	var l []*disk.Disk
	for _, keep := range append(keeps, 0, 1000, math.MaxInt) {
		x := d.Twin()
		x.Crash([]int{keep, keep, keep})
		x.Start()
		if !slices.ContainsFunc(l, func(y *disk.Disk) bool { return disk.Same(x, y) }) {
			l = append(l, x)
		}
	}
	return l
}

// found is what a store has that is opened on a disk behind a crash: what was committed, or that and the batch under way.
func found(t *testing.T, what string, d *disk.Disk, h, more has) has {
	t.Helper()
	s := opens(t, what, d)
	rightFiles(t, what, s)
	had := h
	if !maps.Equal(h, more) && maps.Equal(maps.Collect(s.From("")), more) {
		had = more
	}
	tells(t, what, s, had)
	return had
}

// Wherever the power goes in a call, and however tails are cut then, opened again the store has what was committed, or that and the one batch under way, whole; and so it does wherever the power goes in the opening. The dead store tells what it had.
func loses(t *testing.T, what string, x scene) {
	t.Helper()
	more := x.h.after(x.batch)
	for fuse := 1; ; fuse++ {
		here := fmt.Sprintf("%s, fuse %d", what, fuse)
		d := x.d.Twin()
		s := opens(t, here, d)
		fresh, files := s.Fresh(), s.Files()
		d.Fuse(fuse)
		e := x.call(s)
		if d.Down() != (e == api.ErrDown) {
			t.Fatalf("%s: error %d, and the power is off: %v", here, e, d.Down())
		}
		if e == api.OK {
			d.Fuse(0)
			tells(t, here, s, more)
			keeps(t, here, d, more)
			return
		}
		want(t, here, e, api.ErrDown)
		tells(t, here+", dead", s, x.h)
		if s.Fresh() != fresh || !slices.Equal(s.Files(), files) {
			t.Fatalf("%s: dead, Fresh is %d, Files %v", here, s.Fresh(), s.Files())
		}
		want(t, here+", dead", s.Write(nil), api.ErrDown)
		if d.Used() > 1<<21 {
			for _, y := range cuts(d) {
				found(t, here, y, x.h, more)
			}
			continue
		}
		for i, y := range cuts(d, 1, 4, 7, 8, 9, 20, 100, 16000, 40000) {
			opensAnyhow(t, fmt.Sprintf("%s, cut %d", here, i), y, x.h, more)
		}
	}
}

// opensAnyhow opens a disk's store, with the power going at each number of that, too; then the store goes on.
func opensAnyhow(t *testing.T, what string, d *disk.Disk, h, more has) {
	t.Helper()
	had := found(t, what, d.Twin(), h, more)
	for fuse := 1; ; fuse++ {
		here := fmt.Sprintf("%s, again %d", what, fuse)
		x := d.Twin()
		x.Fuse(fuse)
		s, e := Open(x)
		if e == api.OK {
			break
		}
		if s != nil || e != api.ErrDown || !x.Down() {
			t.Fatalf("%s: error %d", here, e)
		}
		x.Start()
		found(t, here, x, had, had)
	}
	s := opens(t, what, d)
	had = writes(t, s, had, entriesOf("a 8 b - zz 9"))
	want(t, what+", Flush", s.Flush(), api.OK)
	had = writes(t, s, had, entriesOf("a - zz 10"))
	compacts(t, what, s)
	d.Crash(nil)
	d.Start()
	found(t, what+", then", d, had, had)
}

func TestPowerGoesInEachCall(t *testing.T) {
	t.Parallel()
	for what, x := range scenes(t) {
		t.Run(what, func(t *testing.T) { t.Parallel(); loses(t, what, x) })
	}
	for what, x := range deep(t) {
		t.Run(what, func(t *testing.T) { t.Parallel(); loses(t, what, x) })
	}
}

// The same where there is too little room, so that what was done is taken back, or tried again.
func TestPowerGoesWithoutRoom(t *testing.T) {
	t.Parallel()
	for what, x := range scenes(t) {
		t.Run(what, func(t *testing.T) {
			t.Parallel()
			for _, room := range []int{0, 5, 30, 60, 130, 300, 700, 65000, 71000, 150000} {
				for fuse, done := 1, false; !done; fuse++ {
					here := fmt.Sprintf("%s, room %d, fuse %d", what, room, fuse)
					d := x.d.Twin()
					s := opens(t, here, d)
					d.Room(d.Used() + room)
					d.Fuse(fuse)
					e := x.call(s)
					if d.Down() != (e == api.ErrDown) || e != api.OK && e != api.ErrFull && e != api.ErrDown {
						t.Fatalf("%s: error %d, and the power is off: %v", here, e, d.Down())
					}
					done = e != api.ErrDown
					now, more := x.h, x.h.after(x.batch)
					switch e {
					case api.OK:
						now = more
					case api.ErrFull:
						more = now
					}
					tells(t, here, s, now)
					d.Fuse(0)
					if done {
						rightFiles(t, here, s)
						now = more
					}
					for i, y := range cuts(d, 9) {
						found(t, fmt.Sprintf("%s, cut %d", here, i), y, now, more)
					}
				}
			}
		})
	}
}

// A disk without room: the call answers ErrFull, and the store has what it had; or it is done, whole. Then with room it is done.
func TestRoom(t *testing.T) {
	t.Parallel()
	for what, x := range scenes(t) {
		t.Run(what, func(t *testing.T) {
			t.Parallel()
			full, ok := 0, 0
			for room := 0; room < 200000; room += 1 + room/9 {
				here := fmt.Sprintf("%s, room %d", what, room)
				d := x.d.Twin()
				s := opens(t, here, d)
				d.Room(d.Used() + room)
				e := x.call(s)
				h := x.h
				switch e {
				case api.OK:
					ok++
					h = h.after(x.batch)
				case api.ErrFull:
					full++
				default:
					t.Fatalf("%s: error %d", here, e)
				}
				tells(t, here, s, h)
				rightFiles(t, here, s)
				keeps(t, here, d, h)
				d.Room(-1)
				want(t, here+", with room", x.call(s), api.OK)
				tells(t, here+", with room", s, h.after(x.batch))
			}
			if x.batch != nil && (full == 0 || ok == 0 && what != "a Write of two tables") {
				t.Errorf("%s: %d times full, %d times done", what, full, ok)
			}
		})
	}
}

// A disk without files left, likewise.
func TestFilesLeft(t *testing.T) {
	t.Parallel()
	for what, x := range scenes(t) {
		t.Run(what, func(t *testing.T) {
			t.Parallel()
			for left := range 9 {
				here := fmt.Sprintf("%s, %d files left", what, left)
				d := x.d.Twin()
				s := opens(t, here, d)
				fill(t, d, api.MaxFiles-left)
				before := others(d)
				e := x.call(s)
				h := x.h
				if e == api.OK {
					h = h.after(x.batch)
				} else {
					want(t, here, e, api.ErrFull)
				}
				tells(t, here, s, h)
				rightFiles(t, here, s)
				if !disk.Same(before, others(d)) {
					t.Fatalf("%s: other files have changed", here)
				}
				opened := opens(t, here+", opened again", d)
				tells(t, here+", opened again", opened, h)
				if opened.Fresh() != s.Fresh() || !slices.Equal(opened.Files(), s.Files()) {
					t.Fatalf("%s: opened again, Fresh is %d, not %d", here, opened.Fresh(), s.Fresh())
				}
				for _, name := range before.List() {
					d.Remove(name)
				}
				want(t, here+", with files", x.call(s), api.OK)
				tells(t, here+", with files", s, h.after(x.batch))
			}
		})
	}
}

// The deeper levels are put together only as far as there is room.
func TestDeepWithoutRoom(t *testing.T) {
	t.Parallel()
	for what, x := range deep(t) {
		for _, room := range []int{0, 100, 250000, 520000, 2000000} {
			here := fmt.Sprintf("%s, room %d", what, room)
			d := x.d.Twin()
			s := opens(t, here, d)
			d.Room(d.Used() + room)
			files := s.Files()
			more, e := s.Compact()
			if more != (e == api.OK) || e != api.OK && e != api.ErrFull {
				t.Fatalf("%s: %v, error %d", here, more, e)
			}
			if more == slices.Equal(files, s.Files()) {
				t.Errorf("%s: %v, and the files are %v", here, more, s.Files())
			}
			tells(t, here, s, x.h)
			rightFiles(t, here, s)
			if room == 0 || room == 2000000 {
				keeps(t, here, d, x.h)
				if more != (room > 0) {
					t.Errorf("%s: %v", here, more)
				}
			}
		}
	}
}
