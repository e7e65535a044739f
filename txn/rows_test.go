package txn

import (
	"fmt"
	"iter"
	"math/rand/v2"
	"strings"
	"testing"

	"redress/api"
	"redress/disk"
	"redress/table"
)

// Long rows of calls at random, against the chapter's words

// dice are what a row is drawn by.
type dice struct{ *rand.Rand }

func newDice(seed int) dice { return dice{rand.New(rand.NewPCG(uint64(seed), 10))} }

// size is what keys and values a row is made of.
type size struct {
	keys, list, value int
}

// key is one of a few, so that many come again; some of them are beginnings of others.
func (r dice) key(z size) string {
	n := r.IntN(z.keys)
	switch n % 9 {
	case 0:
		return strings.Repeat("\xff", n%7+1)
	case 1:
		return strings.Repeat("\x00", n%5+1)
	case 2:
		return strings.Repeat("k", n%api.MaxKey+1)
	case 3:
		return fmt.Sprintf("k%02d/\xff%d", n%10, n)
	case 4:
		return fmt.Sprintf("k%02d", n%10)
	}
	return fmt.Sprintf("k%02d/%d", n%10, n)
}

// put is one that a list may have.
func (r dice) put(z size) api.Put {
	p := api.Put{Key: r.key(z), Gone: r.IntN(4) == 0}
	if !p.Gone || r.IntN(2) == 0 {
		p.Value = strings.Repeat(string(rune('a'+r.IntN(26))), r.IntN([]int{1, 9, z.value / 9, z.value}[r.IntN(4)]+1))
	}
	if p.Gone && r.IntN(20) == 0 {
		p.Value = strings.Repeat("v", api.MaxCell+1)
	}
	return p
}

// list is one that is not too long.
func (r dice) list(z size) []api.Put {
	for {
		l := make([]api.Put, r.IntN(z.list+1))
		for i := range l {
			l[i] = r.put(z)
		}
		if !tooLong(l) {
			return l
		}
	}
}

// spoilt is a list that may be too long.
func (r dice) spoilt(z size) []api.Put {
	l := r.list(z)
	bad := []api.Put{{}, {Value: "x"}, {Gone: true}, {Key: strings.Repeat("k", api.MaxKey+r.IntN(2))}, {Key: "k", Value: strings.Repeat("v", api.MaxCell+r.IntN(2)), Gone: r.IntN(2) == 0}}
	for range 1 + r.IntN(3) {
		at := r.IntN(len(l) + 1)
		l = append(l[:at:at], append([]api.Put{bad[r.IntN(len(bad))]}, l[at:]...)...)
	}
	for r.IntN(3) == 0 {
		l = append(l, numbered(r.IntN(50), 33, r.IntN(api.MaxCell))...)
	}
	return l
}

// tooLong is the chapter's words.
func tooLong(l []api.Put) bool {
	counts := map[string]api.Put{}
	for _, p := range l {
		if p.Key == "" || len(p.Key) > api.MaxKey || !p.Gone && len(p.Value) > api.MaxCell {
			return true
		}
		counts[p.Key] = p
	}
	bytes := 0
	for key, p := range counts {
		bytes += len(key)
		if !p.Gone {
			bytes += len(p.Value)
		}
	}
	return len(l) > api.MaxBatch || bytes > table.Bytes
}

// kept is something that was told, and what it is to tell for ever.
type kept struct {
	what, prefix string
	s            *Snap
	seq          iter.Seq2[string, string]
	had          has
}

// row is a row of calls under way. The db has h.
type row struct {
	t    *testing.T
	r    dice
	z    size
	d    *disk.Disk
	b    *Db
	h    has
	kept []kept
	done map[api.Errno]int
}

// commit is a Commit of a list, whatever comes of it.
func (w *row) commit(what string, l []api.Put) {
	w.t.Helper()
	more := w.h.after(l)
	e := w.b.Commit(l)
	w.done[e]++
	if (e == api.ErrLong) != tooLong(l) {
		w.t.Fatalf("%s: error %d, and the list is too long: %v", what, e, tooLong(l))
	}
	switch e {
	case api.OK:
		w.h = more
	case api.ErrDown:
		tells(w.t, what+", down", w.b, w.h)
		w.comesBack(what, more)
	case api.ErrLong, api.ErrFull:
		ranges(w.t, what, w.b.Range(""), w.h, "")
	default:
		w.t.Fatalf("%s: error %d", what, e)
	}
	if e != api.ErrDown && w.b.Down() {
		w.t.Fatalf("%s: error %d, and it is down", what, e)
	}
}

// comesBack gives the disk its power, and opens the db anew: what was committed is there, or that and one list more.
func (w *row) comesBack(what string, more has) {
	w.t.Helper()
	if !w.b.Down() || !w.d.Down() {
		w.t.Fatalf("%s: ErrDown, and it is not down", what)
	}
	w.d.Crash([]int{w.r.IntN(20), w.r.IntN(70000)})
	w.d.Start()
	w.b, w.h = found(w.t, what, w.d, w.h, more)
}

// call is one call of the row.
func (w *row) call(what string, bad bool) {
	w.t.Helper()
	switch n := w.r.IntN(20); {
	case n < 9:
		w.commit(what, w.r.list(w.z))
	case n < 11:
		w.commit(what, w.r.spoilt(w.z))
	case n < 13:
		all := prefixes(w.h)
		prefix := all[w.r.IntN(len(all))]
		w.kept = append(w.kept, kept{what, prefix, w.b.Snap(), w.b.Range(prefix), w.h})
	case n == 13:
		tells(w.t, what, w.b, w.h)
	case n == 14:
		keeps(w.t, what, w.d, w.h)
	case n == 15:
		w.d.Fuse(0)
		w.d.Crash([]int{w.r.IntN(99)})
		w.d.Start()
		w.b = opens(w.t, what, w.d)
		tells(w.t, what, w.b, w.h)
	case n == 16 && !bad:
		w.b = opens(w.t, what, w.d)
	case n == 16:
		w.d.Room(w.d.Used() + w.r.IntN(w.z.value*9+200))
	case n == 17 && bad:
		w.d.Room(-1)
	case n == 18 && bad:
		w.d.Fuse(1 + w.r.IntN(25))
	case w.r.IntN(3) == 0 && len(w.kept) > 0:
		x := w.kept[w.r.IntN(len(w.kept))]
		ranges(w.t, x.what, x.seq, x.had, x.prefix)
	}
}

// walk goes through a row of calls.
func walk(t *testing.T, what string, r dice, z size, calls int, bad bool) {
	d := disk.New()
	if bad {
		fill(t, d, api.MaxFiles-4-r.IntN(30))
	}
	w := &row{t: t, r: r, z: z, d: d, b: opens(t, what, d), h: has{}, done: map[api.Errno]int{}}
	for i := range calls {
		w.call(fmt.Sprintf("%s, call %d", what, i), bad)
	}
	for _, x := range w.kept {
		tells(t, x.what+", its snapshot", x.s, x.had)
		ranges(t, x.what, x.seq, x.had, x.prefix)
	}
	tells(t, what+", at last", w.b, w.h)
	keeps(t, what+", at last", d, w.h)
	if w.done[api.OK] == 0 || w.done[api.ErrLong] == 0 || bad && (w.done[api.ErrFull] == 0 || w.done[api.ErrDown] == 0) {
		t.Errorf("%s: this tries little: %v", what, w.done)
	}
}

func TestRows(t *testing.T) {
	t.Parallel()
	sizes := map[string]size{"few": {12, 6, 20}, "small": {60, 8, 20}, "many": {3000, 64, 100}, "long": {200, 30, 3000}, "longest": {300, 64, api.MaxCell}}
	for name, z := range sizes {
		for seed := range 4 {
			for _, bad := range []bool{false, true} {
				what := fmt.Sprintf("%s %d %v", name, seed, bad)
				t.Run(what, func(t *testing.T) {
					t.Parallel()
					walk(t, what, newDice(seed), z, 250, bad)
				})
			}
		}
	}
}
