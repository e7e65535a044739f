package store

import (
	"cmp"
	"fmt"
	"maps"
	"slices"
	"strings"
	"testing"
	"unsafe"

	"redress/api"
	"redress/disk"
	"redress/manifest"
	"redress/table"
)

// lent is texts in memory that is changed when they are taken back.
type lent struct{ memory [][]byte }

// lend is a text in memory of its own.
func (x *lent) lend(s string) string {
	b := []byte(s)
	x.memory = append(x.memory, b)
	return unsafe.String(&b[0], len(b))
}

// takeBack changes all that was lent.
func (x *lent) takeBack() {
	for _, b := range x.memory {
		copy(b, strings.Repeat("?", len(b)))
	}
}

// overlap says where two texts share memory, or one shares it with what a store keeps.
func overlap(t *testing.T, told []string, s *Store) {
	t.Helper()
	type piece struct {
		begin, end uintptr
		kept       bool
	}
	var l []piece
	put := func(s string, kept bool) {
		begin := uintptr(unsafe.Pointer(unsafe.StringData(s)))
		l = append(l, piece{begin, begin + uintptr(len(s)), kept})
	}
	for _, s := range told {
		put(s, false)
	}
	for _, e := range s.now.fresh.From("") {
		put(e.Key, true)
		put(e.Value, true)
	}
	for _, tables := range s.now.tables {
		for _, o := range tables {
			put(o.First, true)
			put(o.Last, true)
			for e := range o.From("") {
				put(e.Key, true)
				put(e.Value, true)
			}
		}
	}
	slices.SortFunc(l, func(a, b piece) int {
		return cmp.Or(cmp.Compare(a.begin, b.begin), cmp.Compare(a.end, b.end))
	})
	for i := range l[1:] {
		if a, b := l[i], l[i+1]; b.begin < a.end && !(a.kept && b.kept) {
			t.Fatalf("what was told shares memory with other things")
		}
	}
}

// Nothing that was handed in is kept, nor is anything told that shares memory with anything else.
func TestSharesNoMemory(t *testing.T) {
	d := disk.New()
	s := opens(t, "a new one", d)
	for _, bytes := range []int{40, 90000} { // by the log, and into tables at once
		var x lent
		var l []table.Entry
		h := has{}
		for i := range 9 {
			key, value := fmt.Sprintf("key %d of %d", i, bytes), strings.Repeat("v", bytes/9)
			h[key] = value
			l = append(l, table.Entry{Key: x.lend(key), Value: x.lend(value)})
		}
		want(t, "Write", s.Write(l), api.OK)
		x.takeBack()
		l[0] = table.Entry{Key: "other", Value: "other"}
		for range 2 {
			for key, value := range h {
				if v, ok := s.Get(key); !ok || v != value {
					t.Fatalf("Get(%q): %s, %v", key, short(v), ok)
				}
			}
			want(t, "Flush", s.Flush(), api.OK)
		}
	}
	var x lent
	writes(t, s, nil, entriesOf("a 1 key 2 z 3"))
	for _, deep := range []bool{false, true} {
		if deep {
			for i := range 4 {
				writes(t, s, nil, numbered(i, 1, 1, 1))
				want(t, "Flush", s.Flush(), api.OK)
			}
			compacts(t, "deep", s)
		}
		had := has(maps.Collect(s.From("")))
		for _, seq := range []func(func(string, string) bool){s.From(x.lend("k")), s.View().From(x.lend("k"))} {
			x.takeBack()
			ranges(t, "a key that was taken back", seq, had, "k")
		}
	}
	var told []string
	tell := func(l ...string) {
		for _, s := range l {
			if len(s) > 0 {
				told = append(told, s)
			}
		}
	}
	seq := s.From("")
	for range 2 {
		for _, r := range []reader{s, s.View()} {
			for key, value := range r.From("") {
				v, _ := r.Get(key)
				tell(key, value, v)
			}
		}
		for key, value := range seq {
			tell(key, value)
		}
		for _, f := range s.Files() {
			tell(f.First, f.Last)
		}
	}
	overlap(t, told, s)
	files := s.Files()
	files[0] = manifest.File{}
	if s.Files()[0] == files[0] {
		t.Errorf("what Files told is kept")
	}
}
