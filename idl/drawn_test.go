package idl

import (
	"math/rand/v2"
	"slices"
	"strings"
	"testing"

	"redress/api"
	"redress/token"
)

func pick[T any](r *rand.Rand, l []T) T { return l[r.IntN(len(l))] }

var (
	names   = []string{"n", "R", "Z", "a_", "a1_B2", "List", "modules", "undo_", "i", "int64", "x9", "Record", strings.Repeat("w", 32), "Q" + strings.Repeat("_", 31)}
	numbers = []string{"0", "1", "3", "7", "10", "999999999"}
)

// aWord is a drawn token of the kind that a word of words is of.
func aWord(r *rand.Rand, w string) string {
	switch w {
	case "n":
		return pick(r, names)
	case "7":
		return pick(r, numbers)
	}
	return w
}

// drawn is a row of tokens of a shape, with about n of them, if there may be so many.
func drawn(r *rand.Rand, s *shape, n int) []string {
	var l []string
	for (len(l) < n || !s.mayEnd()) && s.op != 0 {
		w := aWord(r, pick(r, words))
		if d := s.behind(tokenOf(w)); d != nil {
			l, s = append(l, w), d
		}
	}
	return l
}

// spoiled is a row of tokens with one changed, put in, left out, or cut off with all behind it.
func spoiled(r *rand.Rand, l []string) []string {
	i := r.IntN(len(l))
	switch r.IntN(4) {
	case 0:
		return slices.Concat(l[:i], []string{aWord(r, pick(r, words))}, l[i+1:])
	case 1:
		return slices.Concat(l[:i], []string{aWord(r, pick(r, words))}, l[i:])
	case 2:
		return slices.Concat(l[:i], l[i+1:])
	}
	return l[:i]
}

func inWord(c byte) bool {
	return c == '_' || c >= '0' && c <= '9' || c >= 'a' && c <= 'z' || c >= 'A' && c <= 'Z'
}

// laid is a text that has these tokens, with blanks and remarks of each kind ahead of each one.
func laid(r *rand.Rand, l []string) string {
	between := []string{" ", "\t", "\n", "\r", "\r\n", "   ", "//\n", "// 7 - / \" \xff\x00 { } ;\n", " // a\r b \n ", "///\n//\n", " \t\r\n"}
	var b strings.Builder
	last := byte(' ')
	for _, w := range l {
		if inWord(last) && inWord(w[0]) || r.IntN(3) > 0 {
			b.WriteString(pick(r, between))
		}
		b.WriteString(w)
		last = w[len(w)-1]
	}
	return b.String()
}

// drawnRow is a row of tokens that is spoiled as often as not, but with no token's fault.
func drawnRow(r *rand.Rand) []string {
	l := drawn(r, schemas, r.IntN(150))
	for range r.IntN(3) {
		if len(l) > 0 {
			l = spoiled(r, l)
		}
	}
	return l
}

// P12.1

func TestParseOfDrawnTexts(t *testing.T) {
	r := rand.New(rand.NewPCG(12, 1))
	read := 0
	for range 3000 {
		text := laid(r, drawnRow(r)) + pick(r, ends)
		want := byWords(text)
		parses(t, text, want)
		if want.e == api.OK && len(text) > 200 {
			read++
		}
	}
	if read < 500 {
		t.Errorf("%d long texts that are read: this tries too little", read)
	}
}

// Texts with a byte changed, some of which have token's faults.
func TestParseOfSpoiledTexts(t *testing.T) {
	r := rand.New(rand.NewPCG(12, 2))
	kinds := map[api.Errno]int{}
	for range 5000 {
		b := []byte(laid(r, drawn(r, schemas, r.IntN(80))))
		for range 1 + r.IntN(2) {
			b[r.IntN(len(b))] = pick(r, []byte("{}();:,.->/ \nab01_\x80\x00"))
		}
		want := byWords(string(b))
		parses(t, string(b), want)
		kinds[want.e]++
	}
	for _, e := range []api.Errno{api.OK, api.ErrWord, api.ErrRune, api.ErrLong} {
		if kinds[e] == 0 {
			t.Errorf("error %d: none", e)
		}
	}
}

// P12.2

func TestTypeOfDrawnTexts(t *testing.T) {
	r := rand.New(rand.NewPCG(12, 3))
	for range 5000 {
		l := drawn(r, types, r.IntN(12))
		if r.IntN(2) == 0 {
			l = spoiled(r, l)
		}
		typedByWords(t, laid(r, l)+pick(r, ends))
	}
}

// P12.3

// tokenAt is the number of the token that stands at a place of a text, and of all its tokens, if that is its end.
func tokenAt(t *testing.T, text string, at int) int {
	t.Helper()
	l, _, e := token.All(text)
	if e != api.OK {
		t.Fatalf("%q: error %d", text, e)
	}
	if at == len(text) {
		return len(l)
	}
	i := slices.IndexFunc(l, func(x api.Token) bool { return x.At == at })
	if i < 0 {
		t.Fatalf("%q: no token at %d", text, at)
	}
	return i
}

// What stands between tokens makes no difference: not to what is read, nor to which token is the fault.
func TestLayouts(t *testing.T) {
	r := rand.New(rand.NewPCG(12, 4))
	for range 1500 {
		l := drawnRow(r)
		plain := strings.Join(l, " ")
		a := asked(plain)
		for range 3 {
			text := laid(r, l) + pick(r, ends)
			b := asked(text)
			if a.e != b.e || !sameSchema(a.s, b.s) {
				t.Fatalf("%q: %v; but %q: %v", plain, a, text, b)
			}
			if a.e != api.OK && tokenAt(t, plain, a.at) != tokenAt(t, text, b.at) {
				t.Fatalf("%q: place %d; but %q: place %d", plain, a.at, text, b.at)
			}
		}
	}
}

func TestLayoutsOfTypes(t *testing.T) {
	r := rand.New(rand.NewPCG(12, 5))
	for range 1500 {
		l := drawn(r, types, r.IntN(8))
		want, _, e := Type(strings.Join(l, " "))
		text := laid(r, l) + pick(r, ends)
		if e != api.OK {
			t.Fatalf("%q: error %d", l, e)
		}
		typed(t, text, want, 0, api.OK)
	}
}

// What stands behind the token of an ErrWord makes no difference, as long as it is tokens.
func TestBehindTheFault(t *testing.T) {
	r := rand.New(rand.NewPCG(12, 6))
	faults := 0
	for range 3000 {
		text := laid(r, drawnRow(r))
		_, at, e := Parse(text)
		if e == api.OK || at == len(text) {
			continue
		}
		faults++
		l, _, _ := token.All(text)
		ahead := text[:at] + l[tokenAt(t, text, at)].Text
		wrong(t, ahead, at, api.ErrWord)
		wrong(t, ahead+" "+laid(r, drawn(r, schemas, 20)), at, api.ErrWord)
		var other []string
		for range r.IntN(30) {
			other = append(other, aWord(r, pick(r, words)))
		}
		wrong(t, ahead+"\n"+laid(r, other)+pick(r, ends), at, api.ErrWord)
	}
	if faults < 1000 {
		t.Errorf("%d faults", faults)
	}
}

// A declaration that is put behind a text that is read is read as in its own text.
func TestOneDeclarationMore(t *testing.T) {
	r := rand.New(rand.NewPCG(12, 7))
	for range 300 {
		text := laid(r, drawn(r, schemas, r.IntN(60)))
		all := asked(text)
		if all.e != api.OK {
			t.Fatalf("%q: error %d", text, all.e)
		}
		for range 4 {
			more := laid(r, drawn(r, shapeOf(pick(r, []string{"record", "choice", "service", "saga"})), 3))
			own := asked("module other;" + more)
			if n := len(own.s.Records) + len(own.s.Services) + len(own.s.Sagas); own.e != api.OK || n != 1 {
				t.Fatalf("%q: error %d, %d declarations", more, own.e, n)
			}
			text += pick(r, []string{"", " ", "\n", "// one more\n"}) + more
			all.s.Records = append(all.s.Records, own.s.Records...)
			all.s.Services = append(all.s.Services, own.s.Services...)
			all.s.Sagas = append(all.s.Sagas, own.s.Sagas...)
			parses(t, text, all)
		}
	}
}
