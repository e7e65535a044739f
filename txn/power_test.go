package txn

import (
	"fmt"
	"maps"
	"math"
	"strings"
	"testing"

	"redress/api"
	"redress/disk"
	"redress/table"
)

// scene is a list that is committed to a db on a disk.
type scene struct {
	d *disk.Disk
	h has // what the db has
	l []api.Put
}

// scenes are commits of all kinds.
func scenes(t *testing.T) map[string]scene {
	t.Helper()
	m := map[string]scene{}
	begun := func(lists ...[]api.Put) (*disk.Disk, has) {
		d := disk.New()
		return d, commits(t, opens(t, "a new one", d), nil, lists...)
	}
	d, h := begun()
	m["the first list"] = scene{d, h, puts("a 1 b 2")}
	d, h = begun(puts("a 1 b 2 c 3"), puts("b - d 4"))
	m["a list"] = scene{d, h, puts("a - b 5 e 6 c 7")}
	m["a list of one key"] = scene{d, h, puts("a 2 a - a 3 a 4")}
	m["a list to nothing"] = scene{d, h, puts("a - c - d - e -")}
	m["an empty list"] = scene{d, h, nil}
	m["a list too long for a record"] = scene{d, h, append(puts("a - b 5"), filled(t, 70000)...)}
	m["the longest list"] = scene{d, h, append(filled(t, table.Bytes-2), puts("a - b -")...)}
	d, h = begun(numbered(0, 64, 500), numbered(9, 60, 500), gone(numbered(3, 9, 2)))
	m["a list behind many"] = scene{d, h, puts("k000001 1 k000003 5 k000009 -")}
	var lists [][]api.Put
	for i := range 20 {
		lists = append(lists, numbered(i*5, 64, 290))
	}
	d, h = begun(lists...)
	m["a list behind more"] = scene{d, h, append(numbered(30, 40, 200), gone(numbered(60, 20, 1))...)}
	return m
}

// cuts are disks that a crash may leave of one, with their power on again: each of them if tails are short, else as many all over them.
func cuts(d *disk.Disk) []*disk.Disk {
	cut := func(keep int) *disk.Disk {
		x := d.Twin()
		x.Crash([]int{keep, keep, keep})
		x.Start()
		return x
	}
	l := []*disk.Disk{cut(math.MaxInt)}
	tail := l[0].Used() - cut(0).Used()
	for keep := 0; keep < tail; keep += 1 + tail/100*4 {
		l = append(l, cut(keep))
	}
	return l
}

// found is the db that is opened on a disk behind a crash, and what it has: what was committed, or that and the list under way, whole.
func found(t *testing.T, what string, d *disk.Disk, h, more has) (*Db, has) {
	t.Helper()
	b := opens(t, what, d)
	if maps.Equal(maps.Collect(b.Range("")), more) {
		h = more
	}
	tells(t, what, b, h)
	return b, h
}

// Wherever the power goes in a Commit, and however tails are cut then, opened again the db has what was committed, or that and the one list under way, whole; and it goes on from there. The one that is down tells what it had.
func TestPowerGoesInCommit(t *testing.T) {
	t.Parallel()
	for what, x := range scenes(t) {
		t.Run(what, func(t *testing.T) {
			t.Parallel()
			for fuse := 1; ; fuse++ {
				here := fmt.Sprintf("%s, fuse %d", what, fuse)
				d := x.d.Twin()
				b := opens(t, here, d)
				had := b.Snap()
				d.Fuse(fuse)
				e := b.Commit(x.l)
				if d.Down() != (e == api.ErrDown) || b.Down() != d.Down() {
					t.Fatalf("%s: error %d; the power is off: %v; it is down: %v", here, e, d.Down(), b.Down())
				}
				tells(t, here+", the snapshot", had, x.h)
				if e != api.ErrDown {
					want(t, here, e, api.OK)
					tells(t, here, b, x.h.after(x.l))
					break
				}
				tells(t, here+", down", b, x.h)
				tells(t, here+", down", b.Snap(), x.h)
				behindACrash(t, here, b, d, x)
			}
		})
	}
}

// behindACrash opens the db of a disk whose power went in a Commit, however its tails are cut.
func behindACrash(t *testing.T, what string, b *Db, d *disk.Disk, x scene) {
	t.Helper()
	whole, none := 0, 0
	for i, y := range cuts(d) {
		here := fmt.Sprintf("%s, cut %d", what, i)
		opened, h := found(t, here, y, x.h, x.h.after(x.l))
		if maps.Equal(h, x.h) {
			none++
		} else {
			whole++
		}
		h = commits(t, opened, h, puts("a 8 b - zz 9"), x.l, puts("zz -"))
		tells(t, here+", then", opened, h)
		keeps(t, here+", then", y, h)
	}
	if whole > 0 && none > 0 && len(x.l) == 0 {
		t.Errorf("%s: an empty list is seen", what)
	}
	d.Start()
	want(t, what+", the power is on again", b.Commit(puts("a 9")), api.ErrDown)
	if !b.Down() {
		t.Errorf("%s: the power is on again, and it is not down any more", what)
	}
	tells(t, what+", the power is on again", b, x.h)
}

// A row of lists, of which the power goes in the last one: none of those ahead of it is lost.
func TestPowerGoesInRows(t *testing.T) {
	t.Parallel()
	for seed := range 12 {
		r := newDice(seed)
		z := []size{{30, 6, 30}, {200, 64, 300}, {60, 40, api.MaxCell}}[seed%3]
		d := disk.New()
		b := opens(t, "a new one", d)
		var h has
		for i := range 60 {
			what := fmt.Sprintf("seed %d, list %d", seed, i)
			l := r.list(z)
			d.Fuse(r.IntN(12))
			e := b.Commit(l)
			d.Fuse(0)
			if e == api.OK {
				h = h.after(l)
				continue
			}
			want(t, what, e, api.ErrDown)
			d.Crash([]int{r.IntN(300), r.IntN(300)})
			d.Start()
			b, h = found(t, what, d, h, h.after(l))
		}
		keeps(t, "at last", d, h)
	}
}

// A disk without room: the Commit answers ErrFull, and the db has what it had; or it is done, whole. Then with room it is done.
func TestRoom(t *testing.T) {
	t.Parallel()
	for what, x := range scenes(t) {
		t.Run(what, func(t *testing.T) {
			t.Parallel()
			full, ok := 0, 0
			for room := 0; room < 1500000; room += 1 + room/6 {
				here := fmt.Sprintf("%s, room %d", what, room)
				d := x.d.Twin()
				b := opens(t, here, d)
				d.Room(d.Used() + room)
				if withoutRoom(t, here, b, d, x) == api.OK {
					ok++
				} else {
					full++
				}
				d.Room(-1)
				want(t, here+", with room", b.Commit(x.l), api.OK)
				tells(t, here+", with room", b, x.h.after(x.l))
			}
			if full == 0 || ok == 0 {
				t.Errorf("%d times full, %d times done", full, ok)
			}
		})
	}
}

// withoutRoom is the error of a Commit for which there may be no room.
func withoutRoom(t *testing.T, what string, b *Db, d *disk.Disk, x scene) api.Errno {
	t.Helper()
	had := b.Snap()
	e := b.Commit(x.l)
	h := x.h
	if e == api.OK {
		h = h.after(x.l)
	} else {
		want(t, what, e, api.ErrFull)
	}
	if b.Down() {
		t.Fatalf("%s: it is down", what)
	}
	tells(t, what, b, h)
	tells(t, what+", the snapshot", had, x.h)
	keeps(t, what, d, h)
	return e
}

// A disk without files left, likewise.
func TestFilesLeft(t *testing.T) {
	t.Parallel()
	for what, x := range scenes(t) {
		t.Run(what, func(t *testing.T) {
			t.Parallel()
			for left := range 9 {
				here := fmt.Sprintf("%s, %d files left", what, left)
				d := x.d.Twin()
				b := opens(t, here, d)
				fill(t, d, api.MaxFiles-left)
				withoutRoom(t, here, b, d, x)
				for _, name := range d.List() {
					if strings.HasPrefix(name, "other") {
						d.Remove(name)
					}
				}
				want(t, here+", with files", b.Commit(x.l), api.OK)
				tells(t, here+", with files", b, x.h.after(x.l))
			}
		})
	}
	d := disk.New()
	b := opens(t, "a new one", d)
	h := commits(t, b, nil, puts("a 1"))
	fill(t, d, api.MaxFiles)
	want(t, "no files left", b.Commit(filled(t, 70000)), api.ErrFull)
	tells(t, "no files left", b, h)
}
