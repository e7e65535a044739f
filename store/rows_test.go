package store

import (
	"fmt"
	"maps"
	"math/rand/v2"
	"slices"
	"strings"
	"testing"

	"redress/api"
	"redress/disk"
	"redress/table"
)

// Long rows of calls at random, against the chapter's words

// dice are what a row is drawn by.
type dice struct{ *rand.Rand }

func newDice(seed int) dice { return dice{rand.New(rand.NewPCG(uint64(seed), 9))} }

// size is what keys and values a row is made of.
type size struct {
	keys, batch, value int
}

// batch is a right one.
func (r dice) batch(z size) []table.Entry {
	keys := map[string]bool{}
	for range r.IntN(z.batch + 1) {
		n := r.IntN(z.keys)
		keys[fmt.Sprintf("k%04d", n)] = true
		if n%9 == 0 {
			keys[strings.Repeat("\xff", n%5+1)] = true
			keys[strings.Repeat("\x00", n%4+1)] = true
			keys[strings.Repeat("k", n%api.MaxKey+1)] = true
		}
	}
	var l []table.Entry
	bytes := 0
	for _, key := range slices.Sorted(maps.Keys(keys)) {
		e := table.Entry{Key: key, Gone: r.IntN(4) == 0}
		if !e.Gone {
			e.Value = strings.Repeat(string(rune('a'+r.IntN(26))), r.IntN([]int{1, 9, z.value / 9, z.value}[r.IntN(4)]+1))
		}
		bytes += len(e.Key) + len(e.Value)
		if len(l) < api.MaxBatch && bytes <= table.Bytes {
			l = append(l, e)
		}
	}
	return l
}

// kept is something that was told, and what it is to tell for ever.
type kept struct {
	what string
	v    *View
	seq  func(yield func(string, string) bool)
	key  string
	had  has
}

// walk goes through a row of calls. The store has h; when a call answered ErrDown, perhaps more.
func walk(t *testing.T, what string, r dice, z size, calls int, bad bool) {
	d := disk.New()
	fill(t, d, r.IntN(3))
	if bad {
		fill(t, d, api.MaxFiles-4-r.IntN(30))
	}
	before := others(d)
	s := opens(t, what, d)
	var all []kept
	h := has{}
	done := map[api.Errno]int{}
	for i := range calls {
		here := fmt.Sprintf("%s, call %d", what, i)
		e, more := api.OK, h
		switch n := r.IntN(20); {
		case n < 10:
			l := r.batch(z)
			e, more = s.Write(l), h.after(l)
			if e == api.OK {
				h = more
			}
		case n == 10:
			e = s.Flush()
			if e == api.OK && s.Fresh() != 0 {
				t.Fatalf("%s: flushed, %d are fresh", here, s.Fresh())
			}
		case n < 13:
			var ok bool
			ok, e = s.Compact()
			if ok && e != api.OK {
				t.Fatalf("%s: Compact: true, error %d", here, e)
			}
		case n == 13:
			key := fmt.Sprintf("k%04d", r.IntN(z.keys))
			all = append(all, kept{here, s.View(), s.From(key), key, h})
		case n == 14:
			tells(t, here, s, h)
			tells(t, here+", opened again", opens(t, here, again(d)), h)
		case n == 15:
			var opened *Store
			if opened, e = Open(d); e == api.OK {
				s = opened
				tells(t, here, s, h)
			}
		case n == 16:
			d.Crash([]int{r.IntN(99)})
			d.Start()
			s = opens(t, here, d)
			tells(t, here, s, h)
		case bad && n == 17:
			d.Room(d.Used() + r.IntN(z.value*9+200))
		case bad && n == 18:
			d.Room(-1)
		case bad && n == 19:
			d.Fuse(1 + r.IntN(25))
		}
		if d.Down() != (e == api.ErrDown) || e != api.OK && e != api.ErrDown && (e != api.ErrFull || !bad) {
			t.Fatalf("%s: error %d", here, e)
		}
		done[e]++
		if e == api.ErrDown {
			tells(t, here+", dead", s, h)
			s, h = comesBack(t, here, r, d, h, more)
		}
		if fuse := d.Twin(); r.IntN(9) == 0 {
			fuse.Fuse(0)
			rightFiles(t, here, s)
			if v, ok := s.Get("k0003"); ok != (v != "") && h["k0003"] != "" || v != h["k0003"] {
				t.Fatalf("%s: Get: %s, %v", here, short(v), ok)
			}
		}
	}
	for _, x := range all {
		tells(t, x.what+", its view", x.v, x.had)
		ranges(t, x.what, x.seq, x.had, x.key)
	}
	d.Fuse(0)
	tells(t, what+", at last", s, h)
	keeps(t, what+", at last", d, h)
	if !slices.Equal(before.List(), others(d).List()) {
		t.Errorf("%s: other files are %v, not %v", what, others(d).List(), before.List())
	}
	if bad && (done[api.ErrFull] == 0 || done[api.ErrDown] == 0) {
		t.Errorf("%s: this tries little: %v", what, done)
	}
}

// comesBack gives a disk its power, and opens its store anew, however often the power goes meanwhile.
func comesBack(t *testing.T, what string, r dice, d *disk.Disk, h, more has) (*Store, has) {
	t.Helper()
	for range 3 {
		d.Crash([]int{r.IntN(20), r.IntN(70000), r.IntN(20)})
		d.Start()
		d.Fuse(r.IntN(5))
		if _, e := Open(d); e != api.OK && e != api.ErrDown {
			t.Fatalf("%s: Open: error %d", what, e)
		}
	}
	d.Crash([]int{r.IntN(20), r.IntN(70000)})
	d.Start()
	h = found(t, what, d, h, more)
	return opens(t, what, d), h
}

func TestRows(t *testing.T) {
	t.Parallel()
	sizes := map[string]size{"small": {30, 5, 20}, "many": {3000, 64, 100}, "long": {200, 30, 3000}, "longest": {300, 64, api.MaxCell}}
	for name, z := range sizes {
		for seed := range 4 {
			for _, bad := range []bool{false, true} {
				what := fmt.Sprintf("%s %d %v", name, seed, bad)
				t.Run(what, func(t *testing.T) {
					t.Parallel()
					walk(t, what, newDice(seed), z, 250, bad)
				})
			}
		}
	}
}

// What a store has hangs on what was written alone, not on when it was flushed, compacted and opened again.
func TestWheneverItIsFlushed(t *testing.T) {
	t.Parallel()
	for seed := range 8 {
		r := newDice(seed)
		d, x := disk.New(), disk.New()
		s, other := opens(t, "one", d), opens(t, "the other", x)
		for i := range 200 {
			l := r.batch(size{100, 12, 900})
			want(t, "Write", s.Write(l), api.OK)
			want(t, "Write", other.Write(l), api.OK)
			switch r.IntN(6) {
			case 0:
				want(t, "Flush", s.Flush(), api.OK)
			case 1:
				_, e := s.Compact()
				want(t, "Compact", e, api.OK)
			case 2:
				s = opens(t, "again", d)
			}
			if !maps.Equal(maps.Collect(s.From("")), maps.Collect(other.From(""))) {
				t.Fatalf("seed %d, batch %d: they differ", seed, i)
			}
		}
	}
}
