package txn

import (
	"cmp"
	"fmt"
	"slices"
	"strings"
	"testing"
	"unsafe"

	"redress/api"
	"redress/disk"
)

// lent is texts in memory that is changed when they are taken back.
type lent struct{ memory [][]byte }

// lend is a text in memory of its own.
func (x *lent) lend(s string) string {
	b := []byte(s)
	x.memory = append(x.memory, b)
	return unsafe.String(&b[0], len(b))
}

// takeBack changes all that was lent.
func (x *lent) takeBack() {
	for _, b := range x.memory {
		copy(b, strings.Repeat("?", len(b)))
	}
}

// piece is the place of a text.
type piece struct{ begin, end uintptr }

func pieceOf(s string) piece {
	begin := uintptr(unsafe.Pointer(unsafe.StringData(s)))
	return piece{begin, begin + uintptr(len(s))}
}

// apart says where two texts share memory.
func apart(t *testing.T, what string, texts []string) {
	t.Helper()
	var l []piece
	for _, s := range texts {
		if len(s) > 0 {
			l = append(l, pieceOf(s))
		}
	}
	slices.SortFunc(l, func(a, b piece) int { return cmp.Compare(a.begin, b.begin) })
	for i := 1; i < len(l); i++ {
		if l[i].begin < l[i-1].end {
			t.Fatalf("%s: two texts share memory", what)
		}
	}
}

// What was handed in is not kept: it is changed, and the db tells what it was.
func TestKeepsNothingHandedIn(t *testing.T) {
	d := disk.New()
	b := opens(t, "a new one", d)
	var h has
	for _, bytes := range []int{40, 90000} { // by the log, and into tables at once
		var x lent
		var l, plain []api.Put
		for i := range 20 {
			key, value := fmt.Sprintf("key %d of %d", i%9, bytes), strings.Repeat(string(rune('a'+i)), bytes/9)
			gone := i%5 == 0
			plain = append(plain, api.Put{Key: key, Value: value, Gone: gone})
			l = append(l, api.Put{Key: x.lend(key), Value: x.lend(value), Gone: gone})
		}
		h = h.after(plain)
		s := b.Snap()
		before := b.Range("")
		want(t, "Commit", b.Commit(l), api.OK)
		x.takeBack()
		clear(l)
		tells(t, "taken back", b, h)
		tells(t, "taken back", b.Snap(), h)
		for key := range s.Range("key") {
			if strings.HasSuffix(key, fmt.Sprint(" ", bytes)) {
				t.Errorf("the snapshot tells %s", key)
			}
		}
		for key := range before {
			if strings.HasSuffix(key, fmt.Sprint(" ", bytes)) {
				t.Errorf("what Range handed out tells %s", key)
			}
		}
		keeps(t, "taken back", d, h)
	}
	for _, r := range []reader{b, b.Snap()} {
		var x lent
		seq := r.Range(x.lend("key 1"))
		gets(t, "a key that is lent", r, h, x.lend("key 2 of 40"))
		x.takeBack()
		for range 2 {
			ranges(t, "a prefix that was taken back", seq, h, "key 1")
		}
		tells(t, "keys that were taken back", r, h)
	}
}

// Neither a list nor its spare room is changed, nor what its puts have.
func TestLeavesTheList(t *testing.T) {
	b := opens(t, "a new one", disk.New())
	all := puts("c 1 a 2 b - a - c 3 spare 4 room 5")
	all[2].Value = "no matter"
	before := slices.Clone(all)
	for _, n := range []int{5, 0, 3} {
		want(t, "Commit", b.Commit(all[:n]), api.OK)
		if !slices.Equal(all, before) {
			t.Fatalf("the list is %v now", all)
		}
	}
	tells(t, "behind them", b, has{"c": "1", "a": "2"})
}

// What is told is new memory, each time.
func TestTellsNewMemory(t *testing.T) {
	d := disk.New()
	b := opens(t, "a new one", d)
	var handed, told []string
	l := numbered(0, 30, 50)
	for _, p := range append(l, filled(t, 70000)...) {
		p.Key = "x" + p.Key
		l = append(l, p)
	}
	for chunk := range slices.Chunk(l, 15) {
		commits(t, b, nil, chunk)
	}
	for _, p := range l {
		handed = append(handed, p.Key, p.Value)
	}
	s := b.Snap()
	seq := b.Range("")
	for range 2 {
		for _, r := range []reader{b, s, b.Snap()} {
			for key, value := range r.Range("") {
				v, _ := r.Get(key)
				told = append(told, key, value, v)
			}
		}
		for key, value := range seq {
			told = append(told, key, value)
		}
	}
	apart(t, "told", told)
	in := map[uintptr]bool{}
	for _, x := range handed {
		in[pieceOf(x).begin] = true
	}
	for _, x := range told {
		if len(x) > 0 && in[pieceOf(x).begin] {
			t.Fatalf("what is told shares memory with what was handed in")
		}
	}
}
