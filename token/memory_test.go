package token

import (
	"cmp"
	"slices"
	"strings"
	"testing"
	"unsafe"

	"redress/api"
)

// lend is a text in memory that can be changed.
func lend(s string) (string, []byte) {
	b := append([]byte(s), "spare"...)
	return unsafe.String(&b[0], len(s)), b
}

// piece is where a text stands in memory.
type piece struct{ begin, end uintptr }

// apart says where two texts share memory.
func apart(t *testing.T, what string, texts ...string) {
	t.Helper()
	var l []piece
	for _, s := range texts {
		if len(s) > 0 {
			begin := uintptr(unsafe.Pointer(unsafe.StringData(s)))
			l = append(l, piece{begin, begin + uintptr(len(s))})
		}
	}
	slices.SortFunc(l, func(a, b piece) int { return cmp.Compare(a.begin, b.begin) })
	for i := 1; i < len(l); i++ {
		if l[i].begin < l[i-1].end {
			t.Fatalf("%s: two texts share memory", what)
		}
	}
}

func textsOf(l []api.Token) []string {
	var texts []string
	for _, x := range l {
		texts = append(texts, x.Text)
	}
	return texts
}

const sample = "module m; record R { a: list opt int; b: R; } // x\nservice S { take t(R) -> int undo u; } saga g(R) { do S.t at 2; do S.t at 10; } ; ; 0 0 a a"

// R4: what All tells stands in memory of its own, each time, and hangs on nothing that was handed in.
func TestAllTellsNewMemory(t *testing.T) {
	text, memory := lend(sample)
	a, b := asked(text), asked(text)
	if a.e != api.OK || !a.same(byWords(sample)) || !a.same(b) {
		t.Fatalf("%v", a)
	}
	if string(memory) != sample+"spare" {
		t.Errorf("the text is %q now", memory)
	}
	apart(t, "All", slices.Concat([]string{text}, textsOf(a.l), textsOf(b.l))...)
	for i := range memory {
		memory[i] = '?'
	}
	if !a.same(byWords(sample)) {
		t.Errorf("%v, when the text is taken back", a.l)
	}
	clear(a.l[:cap(a.l)])
	if !b.same(byWords(sample)) || !asked(sample).same(b) {
		t.Errorf("%v, when another answer is changed", b.l)
	}
}

// R4: a list, its spare room too, stays as it was, and what Spell tells of it is no piece of it.
func TestSpellTellsNewMemory(t *testing.T) {
	for _, text := range []string{sample, "a", ";", "->", "7", strings.Repeat("w", 32), ""} {
		var l []api.Token
		var memories [][]byte
		for _, x := range asked(text).l {
			s, memory := lend(x.Text)
			x.Text = s
			l, memories = append(l, x), append(memories, memory)
		}
		roomy := append(slices.Clone(l), aWord("spare", 1), aWord("room", 2))
		before := slices.Clone(roomy)
		s, e := Spell(roomy[:len(l)])
		again, f := Spell(roomy[:len(l):len(l)])
		if want := strings.Join(textsOf(byWords(text).l), " "); e != api.OK || f != api.OK || s != want || again != want {
			t.Fatalf("%q, error %d; %q, error %d; not %q", s, e, again, f, want)
		}
		if !slices.Equal(roomy, before) {
			t.Errorf("the list is %v now", roomy)
		}
		apart(t, "Spell", append(textsOf(l), s, again)...)
		want := strings.Clone(s)
		for _, memory := range memories {
			for i := range memory {
				memory[i] = '?'
			}
		}
		if s != want || again != want {
			t.Errorf("%q, when the tokens are taken back", s)
		}
	}
}

// R4: names are asked, not changed.
func TestNamesLeaveTheText(t *testing.T) {
	for _, s := range []string{"list", "List", "a b", "w_1"} {
		text, memory := lend(s)
		names(t, text)
		if string(memory) != s+"spare" {
			t.Errorf("%s is %q now", s, memory)
		}
	}
}
