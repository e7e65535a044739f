package token

import (
	"math/rand/v2"
	"regexp"
	"slices"
	"strconv"
	"strings"
	"testing"

	"redress/api"
)

// all are the keywords, as the chapter has them.
const all = "module record choice service saga do at undo give take note none bool int text list opt"

func aWord(text string, at int) api.Token {
	return api.Token{Kind: api.KWord, Text: text, At: at}
}

func aSign(text string, at int) api.Token {
	return api.Token{Kind: api.KSign, Text: text, At: at}
}

func aNumber(text string, num, at int) api.Token {
	return api.Token{Kind: api.KNumber, Text: text, Num: num, At: at}
}

// answer is what All answers.
type answer struct {
	l  []api.Token
	at int
	e  api.Errno
}

func (a answer) same(b answer) bool {
	return slices.Equal(a.l, b.l) && a.at == b.at && a.e == b.e
}

func asked(text string) answer {
	l, at, e := All(text)
	return answer{l, at, e}
}

func fault(at int, e api.Errno) answer { return answer{nil, at, e} }

// short is a text, or its beginning.
func short(text string) string { return strconv.Quote(text[:min(len(text), 60)]) }

// answers says where All answers something else.
func answers(t *testing.T, text string, want answer) {
	t.Helper()
	if got := asked(text); !got.same(want) {
		t.Fatalf("All(%s), %d bytes: %d tokens, place %d, error %d, %.200v; not %d tokens, place %d, error %d, %.200v", short(text), len(text), len(got.l), got.at, got.e, got.l, len(want.l), want.at, want.e, want.l)
	}
}

func has(t *testing.T, text string, l ...api.Token) {
	t.Helper()
	answers(t, text, answer{l: l})
}

// what the chapter says of what begins at a place: what stands between tokens, a word, a number, a sign.
var (
	form = regexp.MustCompile(`(?s)\A(?:([ \t\n\r]|//[^\n]*)|([a-zA-Z][a-zA-Z0-9_]*)|([0-9]+)|(->|[{}();:,.]))`)
	name = regexp.MustCompile(`\A[a-zA-Z][a-zA-Z0-9_]{0,31}\z`)
)

// byWords is All as the chapter words it.
func byWords(text string) answer {
	if len(text) > 65536 {
		return fault(0, api.ErrLong)
	}
	var l []api.Token
	for at := 0; at < len(text); {
		m := form.FindStringSubmatch(text[at:])
		switch {
		case m == nil:
			return fault(at, api.ErrRune)
		case m[2] != "":
			if len(m[2]) > 32 {
				return fault(at, api.ErrLong)
			}
			l = append(l, aWord(m[2], at))
		case m[3] != "":
			if len(m[3]) > 9 {
				return fault(at, api.ErrLong)
			}
			if len(m[3]) > 1 && strings.HasPrefix(m[3], "0") {
				return fault(at, api.ErrRune)
			}
			num, err := strconv.Atoi(m[3])
			if err != nil {
				panic(err)
			}
			l = append(l, aNumber(m[3], num, at))
		case m[4] != "":
			l = append(l, aSign(m[4], at))
		}
		at += len(m[0])
	}
	return answer{l: l}
}

// every goes over all texts of an alphabet with at most n bytes.
func every(alphabet string, n int, f func(text string)) {
	f("")
	var longer func(text string)
	longer = func(text string) {
		if len(text) == n {
			return
		}
		for i := range len(alphabet) {
			s := text + alphabet[i:i+1]
			f(s)
			longer(s)
		}
	}
	longer("")
}

// parts are what texts are drawn from: tokens that need something between them, others, what stands between, and faults.
type parts struct{ apart, signs, between, faults []string }

func theParts() parts {
	return parts{
		apart:   append(strings.Fields(all), "a", "Z", "a_", "a1_B2", "List", "x_9", strings.Repeat("w", 32), "Q"+strings.Repeat("_", 31), "0", "7", "10", "999999999", "100000000", "123456789"),
		signs:   strings.Fields("{ } ( ) ; : , . ->"),
		between: []string{" ", "\t", "\n", "\r", "\r\n", "   ", "//\n", "// 7 - / \" \xff\x00\u00e4 {\n", "// a\r b \n", "///\n//\n", " \t\r\n"},
		faults:  []string{"-", "/", "_", "_a", "\x00", "\x7f", "\x80", "\xff", "\u00e4", "\"", "=", "<", ">", "00", "01", "0000000001", "1234567890", strings.Repeat("w", 33), "/*", "\v", "\f"},
	}
}

// drawn is a text of n parts, with a fault at each part as often as is said.
func drawn(r *rand.Rand, n int, faulty float64) string {
	p := theParts()
	one := func(l []string) string { return l[r.IntN(len(l))] }
	var b strings.Builder
	for range n {
		switch {
		case r.Float64() < faulty:
			b.WriteString(one(p.faults))
		case r.IntN(3) == 0:
			b.WriteString(one(p.apart) + one(p.between))
		case r.IntN(2) == 0:
			b.WriteString(one(p.signs))
		case r.IntN(2) == 0:
			b.WriteString(one(p.apart) + one(p.signs))
		default:
			b.WriteString(one(p.between))
		}
	}
	if r.IntN(2) == 0 {
		b.WriteString([]string{"//", "// the end", "a", "9", "", "//\x80"}[r.IntN(6)])
	}
	return b.String()
}

// P11.1

func TestExamples(t *testing.T) {
	has(t, "a->b.c 10", aWord("a", 0), aSign("->", 1), aWord("b", 3), aSign(".", 4), aWord("c", 5), aNumber("10", 10, 7))
	has(t, "x // y {\n;", aWord("x", 0), aSign(";", 9))
	answers(t, "a - b", fault(2, api.ErrRune))
	answers(t, "01", fault(0, api.ErrRune))
	answers(t, "1234567890", fault(0, api.ErrLong))
	answers(t, "/", fault(0, api.ErrRune))
}

func TestWordsNumbersSigns(t *testing.T) {
	has(t, "")
	for _, k := range strings.Fields(all) {
		has(t, k, aWord(k, 0))
	}
	has(t, "aZ_9b z Z A_ A__0_", aWord("aZ_9b", 0), aWord("z", 6), aWord("Z", 8), aWord("A_", 10), aWord("A__0_", 13))
	has(t, "0 1 9 10 90 109", aNumber("0", 0, 0), aNumber("1", 1, 2), aNumber("9", 9, 4), aNumber("10", 10, 6), aNumber("90", 90, 9), aNumber("109", 109, 12))
	has(t, "{}();:,.->", aSign("{", 0), aSign("}", 1), aSign("(", 2), aSign(")", 3), aSign(";", 4), aSign(":", 5), aSign(",", 6), aSign(".", 7), aSign("->", 8))
	has(t, "->->", aSign("->", 0), aSign("->", 2))
	has(t, "module shop; record Order { account: text; amount: int; }",
		aWord("module", 0), aWord("shop", 7), aSign(";", 11), aWord("record", 13), aWord("Order", 20), aSign("{", 26), aWord("account", 28), aSign(":", 35), aWord("text", 37), aSign(";", 41), aWord("amount", 43), aSign(":", 49), aWord("int", 51), aSign(";", 54), aSign("}", 56))
}

// Each token is as long as can be: nothing is needed between a number and a word behind it.
func TestNothingBetween(t *testing.T) {
	has(t, "9a", aNumber("9", 9, 0), aWord("a", 1))
	has(t, "a9", aWord("a9", 0))
	has(t, "9a9a 9", aNumber("9", 9, 0), aWord("a9a", 1), aNumber("9", 9, 5))
	has(t, "0a1", aNumber("0", 0, 0), aWord("a1", 1))
	has(t, "123456789list", aNumber("123456789", 123456789, 0), aWord("list", 9))
	has(t, "1.2", aNumber("1", 1, 0), aSign(".", 1), aNumber("2", 2, 2))
	has(t, "a//\nb//c", aWord("a", 0), aWord("b", 4))
	has(t, "7//8\n9", aNumber("7", 7, 0), aNumber("9", 9, 5))
	answers(t, "_", fault(0, api.ErrRune))
	answers(t, "_a", fault(0, api.ErrRune))
	answers(t, "a _", fault(2, api.ErrRune))
	answers(t, "9_", fault(1, api.ErrRune))
	answers(t, "._", fault(1, api.ErrRune))
}

func TestBlanksAndRemarks(t *testing.T) {
	for _, blank := range []string{" ", "\t", "\n", "\r"} {
		has(t, blank)
		has(t, strings.Repeat(blank, 5))
		has(t, blank+"a"+blank+blank+"b"+blank, aWord("a", 1), aWord("b", 4))
		has(t, "1"+blank+"2", aNumber("1", 1, 0), aNumber("2", 2, 2))
		answers(t, "-"+blank+">", fault(0, api.ErrRune))
		answers(t, "/"+blank+"/", fault(0, api.ErrRune))
	}
	has(t, " \t\n\r\r\n\t a", aWord("a", 8))
	has(t, "//")
	has(t, "// a b")
	has(t, "//\n")
	has(t, "//\n//\n//")
	has(t, "//a\na", aWord("a", 4))
	has(t, "///\n;", aSign(";", 4))
	has(t, "a // b\r c\n d", aWord("a", 0), aWord("d", 11)) // no byte but 10 ends one
	has(t, "//"+everyByteBut('\n')+"\n.", aSign(".", 258))
	has(t, "// - / _ 01 1234567890 "+strings.Repeat("w", 40)+"\n.", aSign(".", 64))
	answers(t, "//\n/", fault(3, api.ErrRune))
	answers(t, "// a\n_", fault(5, api.ErrRune))
}

func everyByteBut(c byte) string {
	var b []byte
	for x := range 256 {
		if byte(x) != c {
			b = append(b, byte(x))
		}
	}
	return string(b)
}

func TestWhatBeginsNothing(t *testing.T) {
	const begins = " \t\n\r{}();:,.0123456789abcdefghijklmnopqrstuvwxyzABCDEFGHIJKLMNOPQRSTUVWXYZ"
	for x := range 256 {
		c := string([]byte{byte(x)})
		if strings.Contains(begins, c) {
			if a := asked(c); a.e != api.OK || a.at != 0 {
				t.Errorf("byte %d: place %d, error %d", x, a.at, a.e)
			}
			continue
		}
		answers(t, c, fault(0, api.ErrRune))
		answers(t, "{ "+c, fault(2, api.ErrRune))
		answers(t, "12"+c+"a", fault(2, api.ErrRune))
		if c != "_" {
			answers(t, "ab"+c+"0", fault(2, api.ErrRune))
		}
		has(t, "// "+c+"\n;", aSign(";", 5))
	}
	for _, text := range []string{"\u00e4", "\u00aa", "\u0661", "\uff41", "\u2028", "\u00a0", "\ufeff", "\u2192", "\v", "\f", "\x85"} {
		answers(t, text, fault(0, api.ErrRune))
		answers(t, "a"+text, fault(1, api.ErrRune))
	}
}

func TestCutShort(t *testing.T) {
	answers(t, "-", fault(0, api.ErrRune))
	answers(t, "a -", fault(2, api.ErrRune))
	answers(t, "--", fault(0, api.ErrRune))
	answers(t, "-->", fault(0, api.ErrRune))
	answers(t, "->-", fault(2, api.ErrRune))
	answers(t, "->>", fault(2, api.ErrRune))
	answers(t, ">", fault(0, api.ErrRune))
	answers(t, "-1", fault(0, api.ErrRune))
	answers(t, "-//\n>", fault(0, api.ErrRune))
	answers(t, "a/", fault(1, api.ErrRune))
	answers(t, "/a/", fault(0, api.ErrRune))
	answers(t, "/*a*/", fault(0, api.ErrRune))
}

func TestLongWords(t *testing.T) {
	for _, c := range []string{"w", "Z", "a_", "A9"} {
		longest := strings.Repeat(c, 32)[:32]
		has(t, longest, aWord(longest, 0))
		has(t, ". "+longest+" a", aSign(".", 0), aWord(longest, 2), aWord("a", 35))
		for _, more := range []string{"b", "_", "0", "Z", strings.Repeat("z", 65000)} {
			answers(t, longest+more, fault(0, api.ErrLong))
			answers(t, " a "+longest+more+" -", fault(3, api.ErrLong))
		}
	}
	has(t, strings.Repeat("w", 32)+";"+strings.Repeat("w", 32), aWord(strings.Repeat("w", 32), 0), aSign(";", 32), aWord(strings.Repeat("w", 32), 33))
}

func TestLongNumbers(t *testing.T) {
	has(t, "999999999", aNumber("999999999", 999999999, 0))
	has(t, "100000000 123456789", aNumber("100000000", 100000000, 0), aNumber("123456789", 123456789, 10))
	for _, digits := range []string{"1000000000", "1234567890", "9999999999", "2147483648", "4294967296", "18446744073709551616", strings.Repeat("9", 65000)} {
		answers(t, digits, fault(0, api.ErrLong))
		answers(t, "a "+digits+" -", fault(2, api.ErrLong))
	}
	for _, digits := range []string{"00", "01", "09", "000", "0100", "000000000", "012345678"} {
		answers(t, digits, fault(0, api.ErrRune))
		answers(t, "7 "+digits+"a", fault(2, api.ErrRune))
	}
	// Of both the chapter names that one first.
	for _, digits := range []string{"0000000000", "0123456789", strings.Repeat("0", 60)} {
		answers(t, digits, fault(0, api.ErrLong))
	}
}

// Of several faults the one at the first place is told, of whatever kind the others are.
func TestTheFirstFault(t *testing.T) {
	kinds := []struct {
		text string
		e    api.Errno
	}{{"-", api.ErrRune}, {"/", api.ErrRune}, {"_a", api.ErrRune}, {"\x80", api.ErrRune}, {"01", api.ErrRune}, {"1234567890", api.ErrLong}, {"0123456789", api.ErrLong}, {strings.Repeat("w", 33), api.ErrLong}}
	for _, a := range kinds {
		for _, b := range kinds {
			answers(t, a.text+" "+b.text, fault(0, a.e))
			answers(t, "a //\n"+a.text+"\n"+b.text+" x", fault(5, a.e))
		}
	}
}

func TestLongTexts(t *testing.T) {
	fill := func(s string, n int) string { return strings.Repeat(s, n/len(s)+1)[:n] }
	for _, s := range []string{";", "a ", "->", "7\n", " ", "//", "list opt int ;\n", "123456789 ", strings.Repeat("w", 32) + "\t"} {
		for _, n := range []int{65535, 65536} {
			answers(t, fill(s, n), byWords(fill(s, n)))
		}
		for _, n := range []int{65537, 65538, 1 << 17, 1 << 20} {
			answers(t, fill(s, n), fault(0, api.ErrLong))
		}
	}
	if l := asked(fill(";", 65536)).l; len(l) != 65536 || l[65535] != aSign(";", 65535) {
		t.Errorf("%d signs", len(l))
	}
	answers(t, fill(" ", 65535)+"-", fault(65535, api.ErrRune))
	answers(t, fill("a;", 65535)+"\xff", fault(65535, api.ErrRune))
	answers(t, fill(";", 65503)+fill("w", 33), fault(65503, api.ErrLong))
	answers(t, fill(";", 65504)+fill("w", 33), fault(0, api.ErrLong))
	answers(t, "-"+fill(" ", 65536), fault(0, api.ErrLong)) // that is told first
	answers(t, "a -"+fill(" ", 65536), fault(0, api.ErrLong))
}

func TestAllOfEveryShortText(t *testing.T) {
	every("a_09->/\n ;", 5, func(text string) { answers(t, text, byWords(text)) })
	every("bZ.1\r-\x80/", 5, func(text string) { answers(t, text, byWords(text)) })
}

func TestAllOfEachPairOfBytes(t *testing.T) {
	for a := range 256 {
		for b := range 256 {
			text := string([]byte{byte(a), byte(b)})
			answers(t, text, byWords(text))
			answers(t, "x"+text+"7", byWords("x"+text+"7"))
		}
	}
}

func TestAllOfDrawnTexts(t *testing.T) {
	r := rand.New(rand.NewPCG(11, 1))
	right := 0
	for i := range 6000 {
		text := drawn(r, i%90, []float64{0, 0, 0.02, 0.3}[i%4])
		want := byWords(text)
		answers(t, text, want)
		if len(want.l) > 20 {
			right++
		}
	}
	if right < 1500 {
		t.Errorf("%d texts of many tokens: this tries too little", right)
	}
	for range 500 {
		b := make([]byte, r.IntN(200))
		for i := range b {
			b[i] = byte(r.IntN(256))
		}
		answers(t, string(b), byWords(string(b)))
	}
}

// R3: what was asked ahead is no matter.
func TestAnswersTheSameAgain(t *testing.T) {
	texts := []string{"a->b.c 10", "a - b", "", "01", strings.Repeat("w", 33), strings.Repeat(" ", 65537), "module m ;"}
	for _, a := range texts {
		for _, b := range texts {
			want := byWords(b)
			asked(a)
			answers(t, b, want)
		}
	}
}

// P11.2

// names says whether Name and Keyword answer as they must.
func names(t *testing.T, s string) {
	t.Helper()
	keyword := slices.Contains(strings.Fields(all), s)
	if got := Keyword(s); got != keyword {
		t.Errorf("Keyword(%s): %v", short(s), got)
	}
	if got, want := Name(s), name.MatchString(s) && !keyword; got != want {
		t.Errorf("Name(%s), %d bytes: %v", short(s), len(s), got)
	}
}

func TestNameAndKeyword(t *testing.T) {
	for s, is := range map[string]bool{
		"list": false, "List": true, "a b": false, "_a": false, "": false, "a": true, "Z": true, "a_": true, "a1": true, "1": false, "1a": false, "a-b": false, "a.b": false, " a": false, "a ": false, "a\n": false, "a//": false, "//a": false, "->": false, ";": false, "a\x00": false, "\u00e4": false, "a\u00e4": false, "modules": true, "modul": true, "none": false, "nonE": true,
		strings.Repeat("w", 32): true, strings.Repeat("w", 33): false, strings.Repeat("w", 70000): false,
	} {
		if Name(s) != is {
			t.Errorf("Name(%s): %v", short(s), !is)
		}
	}
	if n := len(strings.Fields(all)); n != 17 {
		t.Fatalf("%d keywords", n)
	}
	for _, k := range strings.Fields(all) {
		if !Keyword(k) || Name(k) {
			t.Errorf("%s: Keyword %v, Name %v", k, Keyword(k), Name(k))
		}
	}
}

// Whatever differs from a keyword in a byte, one more or one less, is none (but for none, which is no note).
func TestNearKeywords(t *testing.T) {
	for _, k := range strings.Fields(all) {
		names(t, k+k)
		names(t, strings.ToUpper(k))
		names(t, strings.ToUpper(k[:1])+k[1:])
		for i := range len(k) + 1 {
			names(t, k[:i])
			names(t, k[i:])
			for c := range 256 {
				one := string([]byte{byte(c)})
				names(t, k[:i]+one+k[i:])
				if i < len(k) {
					names(t, k[:i]+one+k[i+1:])
				}
			}
		}
	}
}

func TestNamesOfAllKinds(t *testing.T) {
	every("az_0-; AZ9\n", 4, func(s string) { names(t, s) })
	for a := range 256 {
		for b := range 256 {
			names(t, string([]byte{byte(a), byte(b)}))
			names(t, string([]byte{'q', byte(a), byte(b)}))
		}
	}
	for n := range 70 {
		for _, c := range []string{"w", "_", "7", "Q", " ", "\xff"} {
			names(t, "a"+strings.Repeat(c, n))
			names(t, strings.Repeat("a", n)+c)
			names(t, c+strings.Repeat("a", n))
		}
	}
	for _, n := range []int{65535, 65536, 65537, 1 << 20} {
		names(t, strings.Repeat("a", n))
	}
}
