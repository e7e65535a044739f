package token

import (
	"math"
	"math/rand/v2"
	"slices"
	"strings"
	"testing"

	"redress/api"
)

// spells says where Spell answers something else.
func spells(t *testing.T, l []api.Token, want string, e api.Errno) {
	t.Helper()
	if got, f := Spell(l); got != want || f != e {
		t.Fatalf("Spell of %d tokens, %.200v: %s, %d bytes, error %d; not %s, %d bytes, error %d", len(l), l, short(got), len(got), f, short(want), len(want), e)
	}
}

// one is a token, if Spell's words let it be one.
func one(t api.Token) bool {
	a := byWords(t.Text)
	t.At = 0
	return a.e == api.OK && len(a.l) == 1 && a.l[0] == t
}

// P11.3

func TestSpellExamples(t *testing.T) {
	spells(t, []api.Token{aWord("a", 0), aSign(";", 0), aNumber("7", 7, 0)}, "a ; 7", api.OK)
	spells(t, nil, "", api.OK)
	spells(t, []api.Token{}, "", api.OK)
	spells(t, []api.Token{aSign("->", 0)}, "->", api.OK)
	spells(t, []api.Token{aWord("a", 0), aWord("a", 0), aSign("->", 0), aSign("{", 0), aNumber("0", 0, 0), aNumber("999999999", 999999999, 0)}, "a a -> { 0 999999999", api.OK)
	for _, k := range strings.Fields(all) {
		spells(t, []api.Token{aWord(k, 0), aSign(".", 0), aWord(k, 0)}, k+" . "+k, api.OK)
	}
	for _, s := range strings.Fields("{ } ( ) ; : , . ->") {
		spells(t, []api.Token{aSign(s, 0)}, s, api.OK)
	}
	longest := strings.Repeat("w", 32)
	spells(t, []api.Token{aWord(longest, 0), aWord(longest, 0)}, longest+" "+longest, api.OK)
}

// Where a token stands is no matter.
func TestSpellAnyPlace(t *testing.T) {
	for _, at := range []int{0, 1, -1, 65536, math.MaxInt, math.MinInt} {
		spells(t, []api.Token{aWord("a", at), aSign(":", at), aNumber("10", 10, at)}, "a : 10", api.OK)
	}
}

func TestSpellWrong(t *testing.T) {
	for _, x := range []api.Token{
		{},
		{Kind: 0, Text: "a"}, {Kind: 4, Text: "a"}, {Kind: 255, Text: "a"}, {Kind: 0, Text: ";"}, {Kind: 4, Text: "7", Num: 7},
		{Kind: api.KWord}, {Kind: api.KNumber}, {Kind: api.KSign},
		{Kind: api.KWord, Text: ";"}, {Kind: api.KWord, Text: "7"}, {Kind: api.KWord, Text: "7", Num: 7}, {Kind: api.KSign, Text: "a"}, {Kind: api.KSign, Text: "7"}, {Kind: api.KNumber, Text: "a"}, {Kind: api.KNumber, Text: ";"},
		aWord("a b", 0), aWord("a.b", 0), aWord("a;", 0), aWord("7a", 0), aWord("_a", 0), aWord("a-", 0), aWord("a/", 0),
		aWord("a ", 0), aWord(" a", 0), aWord("a\n", 0), aWord("\na", 0), aWord("a\t", 0), aWord("a\r", 0), aWord("a//", 0), aWord("a//b", 0), aWord("//\na", 0), aWord("//a", 0),
		aWord(strings.Repeat("w", 33), 0), aWord(strings.Repeat("w", 70000), 0), aWord("a"+strings.Repeat(" ", 65536), 0), aWord("\u00e4", 0), aWord("\xff", 0),
		aSign(";;", 0), aSign("->->", 0), aSign("-> ", 0), aSign(" ;", 0), aSign("; ", 0), aSign(";//", 0), aSign("-", 0), aSign(">", 0), aSign("- >", 0), aSign("/", 0), aSign("//", 0), aSign("=", 0), aSign(" ", 0), aSign("{}", 0),
		aNumber("7", 0, 0), aNumber("7", 8, 0), aNumber("7", -7, 0), aNumber("7", math.MinInt+7, 0), aNumber("0", 1, 0), aNumber("10", 1, 0), aNumber("10", 2, 0), aNumber("123456789", 123456788, 0),
		aNumber("07", 7, 0), aNumber("00", 0, 0), aNumber("1234567890", 1234567890, 0), aNumber("0000000007", 7, 0), aNumber("-7", -7, 0), aNumber("+7", 7, 0), aNumber("7 ", 7, 0), aNumber(" 7", 7, 0), aNumber("7.", 7, 0), aNumber("7a", 7, 0), aNumber("1 2", 12, 0), aNumber("1_0", 10, 0), aNumber("0x7", 7, 0), aNumber("7//", 7, 0), aNumber(strings.Repeat("9", 70000), 9, 0),
		{Kind: api.KWord, Text: "a", Num: 1}, {Kind: api.KWord, Text: "a", Num: -1}, {Kind: api.KSign, Text: ";", Num: 1}, {Kind: api.KSign, Text: "->", Num: math.MinInt},
	} {
		a, b := aWord("a", 0), aSign(";", 0)
		for _, l := range [][]api.Token{{x}, {x, a, b}, {a, x, b}, {a, b, x}, {x, x}} {
			spells(t, l, "", api.ErrArg)
		}
	}
}

// Of each short text, of each kind and some numbers: a token, or none.
func TestSpellOfEveryShortText(t *testing.T) {
	spelt := 0
	every("aZ_019->/\n ;.", 3, func(text string) {
		for _, kind := range []byte{0, 1, 2, 3, 4} {
			for _, num := range []int{0, 1, 9, 10, 19, 91, 100, 199, 901} {
				x := api.Token{Kind: kind, Text: text, Num: num, At: num - 5}
				if one(x) {
					spelt++
					spells(t, []api.Token{x}, text, api.OK)
				} else {
					spells(t, []api.Token{x}, "", api.ErrArg)
				}
			}
		}
	})
	if spelt < 60 {
		t.Errorf("%d tokens were spelt: this tries too little", spelt)
	}
}

// many is n tokens.
func many(x api.Token, n int) []api.Token { return slices.Repeat([]api.Token{x}, n) }

func TestSpellLong(t *testing.T) {
	semi, two := aSign(";", 0), aSign("->", 0)
	rest := strings.Repeat(" ;", 32767)
	spells(t, many(semi, 32768), ";"+rest, api.OK)                               // of 65535 bytes
	spells(t, append([]api.Token{two}, many(semi, 32767)...), "->"+rest, api.OK) // of 65536
	spells(t, append(many(semi, 32767), two), ";"+strings.Repeat(" ;", 32766)+" ->", api.OK)
	spells(t, many(semi, 32769), "", api.ErrLong)                                            // of 65537
	spells(t, append([]api.Token{two, two}, many(semi, 32766)...), "", api.ErrLong)          // too
	spells(t, append(many(semi, 32766), two, two), "", api.ErrLong)                          // too
	spells(t, append([]api.Token{aWord("abc", 0)}, many(semi, 32767)...), "", api.ErrLong)   // too
	spells(t, many(aWord(strings.Repeat("w", 32), 0), 300000), "", api.ErrLong)              // of many more
	spells(t, append(many(aNumber("123456789", 123456789, 0), 6554), semi), "", api.ErrLong) // the last one alone is too much
	spells(t, append(many(aNumber("123456789", 123456789, 0), 6553), two, semi), manyNine(6553)+" -> ;", api.OK)
}

func manyNine(n int) string { return strings.Repeat(" 123456789", n)[1:] }

// That a token is none is told ahead of too many bytes, wherever it stands.
func TestSpellWrongAheadOfLong(t *testing.T) {
	bad := aSign("-", 0)
	for _, n := range []int{32769, 40000, 100000} {
		l := many(aSign(";", 0), n)
		spells(t, append(slices.Clone(l), bad), "", api.ErrArg)
		spells(t, append([]api.Token{bad}, l...), "", api.ErrArg)
		spells(t, slices.Insert(l, 32769, bad), "", api.ErrArg)
	}
}

// P11.4

// placeless is tokens without their places.
func placeless(l []api.Token) []api.Token {
	l = slices.Clone(l)
	for i := range l {
		l[i].At = 0
	}
	return l
}

// inOrder says where tokens do not stand in order, apart from one another, each where its text stands.
func inOrder(t *testing.T, text string, l []api.Token) {
	t.Helper()
	at := 0
	for i, x := range l {
		if x.At < at || x.Text == "" || x.At+len(x.Text) > len(text) || text[x.At:x.At+len(x.Text)] != x.Text {
			t.Fatalf("All(%s): token %d is %v, the one ahead ends at %d", short(text), i, x, at)
		}
		at = x.At + len(x.Text)
	}
}

// spellsAgain says where what Spell tells of a text's tokens has others.
func spellsAgain(t *testing.T, text string, l []api.Token) {
	t.Helper()
	var texts []string
	for _, x := range l {
		texts = append(texts, x.Text)
	}
	spelt := strings.Join(texts, " ")
	if len(spelt) > 65536 {
		spells(t, l, "", api.ErrLong)
		return
	}
	spells(t, l, spelt, api.OK)
	again := asked(spelt)
	if again.e != api.OK || again.at != 0 || !slices.Equal(placeless(again.l), placeless(l)) {
		t.Fatalf("All(%s): error %d, %.200v; not %.200v", short(spelt), again.e, again.l, l)
	}
	spells(t, again.l, spelt, api.OK)
}

func TestTokensStandInOrder(t *testing.T) {
	try := func(text string) {
		l := asked(text).l
		inOrder(t, text, l)
		spellsAgain(t, text, l)
	}
	every("a_09->/\n ;", 4, try)
	r := rand.New(rand.NewPCG(11, 4))
	for i := range 2000 {
		try(drawn(r, i%90, 0.005))
	}
	for _, s := range []string{";", "a ", "ab;", "->;\n", "7 list//\n", strings.Repeat("w", 32) + " "} {
		for _, n := range []int{32767, 32768, 32769, 65535, 65536} {
			try(strings.Repeat(s, n/len(s)+1)[:n])
		}
	}
}

// both says where a text behind another one, on a new line, has not the tokens of both.
func both(t *testing.T, a, b string) {
	t.Helper()
	x, y := asked(a), asked(b)
	if x.e != api.OK || y.e != api.OK {
		return
	}
	text := a + "\n" + b
	if len(text) > 65536 {
		answers(t, text, fault(0, api.ErrLong))
		return
	}
	want := slices.Clone(x.l)
	for _, one := range y.l {
		one.At += len(a) + 1
		want = append(want, one)
	}
	answers(t, text, answer{l: want})
}

func TestTextsBehindOneAnother(t *testing.T) {
	var texts []string
	every("a0->/ ;", 3, func(text string) { texts = append(texts, text) })
	texts = append(texts, "", "a//", "a // b", "//", "\n", "a\r", "x // y {\n;", "module m;", strings.Repeat("w", 32), "123456789", "0")
	for _, a := range texts {
		for _, b := range texts {
			both(t, a, b)
		}
	}
	r := rand.New(rand.NewPCG(11, 5))
	for range 2000 {
		both(t, drawn(r, r.IntN(40), 0), drawn(r, r.IntN(40), 0))
	}
	for _, n := range []int{32767, 32768, 65534, 65535, 65536} {
		both(t, strings.Repeat(";", n), strings.Repeat("a", 1))
		both(t, "//", strings.Repeat(";", n))
		both(t, strings.Repeat("; ", n/2), strings.Repeat("7\n", 16384))
	}
}
