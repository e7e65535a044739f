package sum

import (
	"math"
	"slices"
	"strings"
	"testing"
	"unsafe"

	"redress/api"
)

// slowCrc is the sum as the chapter words it, bit by bit.
func slowCrc(s string) uint32 {
	c := ^uint32(0)
	for i := range len(s) {
		c ^= uint32(s[i])
		for range 8 {
			if c&1 == 1 {
				c = c>>1 ^ 0x82f63b78
			} else {
				c >>= 1
			}
		}
	}
	return ^c
}

// slowFrame is a frame as the chapter words it, of any body.
func slowFrame(body string) string {
	bytesOf := func(n uint32) string {
		b := make([]byte, 4)
		for i := range b {
			b[i] = byte(n % 256)
			n /= 256
		}
		return string(b)
	}
	length := bytesOf(uint32(len(body)))
	return length + bytesOf(slowCrc(length+body)) + body
}

// noise is n bytes of all kinds, the same for the same seed.
func noise(n int, seed uint32) string {
	b := make([]byte, n)
	for i := range b {
		seed = seed*1664525 + 1013904223
		b[i] = byte(seed >> 24)
	}
	return string(b)
}

// bodies are some of all lengths that matter.
func bodies() []string {
	l := []string{"", "\x00", "\xff", "ab", "\x00\x00\x00\x00\x00\x00\x00\x00", slowFrame("inner"), noise(65535, 1), noise(65536, 2)}
	for n := range 40 {
		l = append(l, noise(n, uint32(n)))
	}
	return l
}

// framed is a body's frame, and that Frame gives it without an error.
func framed(t *testing.T, body string) string {
	t.Helper()
	f, e := Frame(body)
	if e != api.OK {
		t.Fatalf("Frame of %d bytes: error %d", len(body), e)
	}
	return f
}

// noFrame says whether Next tells that there is none, and zero values beside it.
func noFrame(s string, at int) bool {
	body, next, ok := Next(s, at)
	return body == "" && next == 0 && !ok
}

// P1.1

func TestCrcKnown(t *testing.T) {
	for _, x := range []struct {
		s string
		c uint32
	}{
		{"", 0},
		{"123456789", 0xe3069283},
		{"a", 0xc1d04330},
		{strings.Repeat("\x00", 32), 0x8a9136aa},
		{strings.Repeat("\xff", 32), 0x62a8ab43},
	} {
		if c := Crc(x.s); c != x.c {
			t.Errorf("Crc(%q): %#x", x.s, c)
		}
	}
}

func TestCrcIsTheSum(t *testing.T) {
	for x := range 256 {
		if s := string([]byte{byte(x)}); Crc(s) != slowCrc(s) {
			t.Errorf("Crc of the byte %d", x)
		}
	}
	for _, s := range bodies() {
		if Crc(s) != slowCrc(s) {
			t.Errorf("Crc of %d bytes", len(s))
		}
	}
}

func TestMoreGoesOn(t *testing.T) {
	if More(Crc("1234"), "56789") != 0xe3069283 || More(0, "") != 0 {
		t.Error("the chapter's examples")
	}
	for _, c := range []uint32{0, 1, 0x80000000, 0xffffffff, 0xe3069283} {
		if More(c, "") != c {
			t.Errorf("More of %#x and nothing", c)
		}
	}
	s := noise(60, 7)
	for i := range len(s) + 1 {
		if More(Crc(s[:i]), s[i:]) != slowCrc(s) {
			t.Errorf("cut at %d", i)
		}
	}
}

func TestLong(t *testing.T) {
	for _, x := range []struct {
		s string
		p uint64
	}{
		{"", 14695981039346656037},
		{"a", 12638187200555641996},
		{"foobar", 0x85944171f73967e8},
		{"\x00", 0xaf63bd4c8601b7df},
		{"\xff", 0xaf64724c8602eb6e},
	} {
		if p := Long(x.s); p != x.p {
			t.Errorf("Long(%q): %d", x.s, p)
		}
	}
	if Long("ab") == Long("ba") {
		t.Error("the order is no matter")
	}
}

// P1.2

func TestFrame(t *testing.T) {
	f := framed(t, "ab")
	if len(f) != 10 || f[:4] != "\x02\x00\x00\x00" || f[8:] != "ab" {
		t.Errorf("%q", f)
	}
	for _, body := range bodies() {
		if framed(t, body) != slowFrame(body) {
			t.Errorf("Frame of %d bytes", len(body))
		}
	}
}

func TestFrameTooLong(t *testing.T) {
	for _, n := range []int{65537, 65538, 1 << 17, 1 << 20} {
		if f, e := Frame(noise(n, 3)); f != "" || e != api.ErrLong {
			t.Errorf("%d bytes: %d bytes, error %d", n, len(f), e)
		}
	}
}

func TestNextOfFrames(t *testing.T) {
	for _, body := range bodies() {
		f := framed(t, body)
		for _, x := range []struct{ front, back string }{{"", ""}, {"", "x"}, {"x", ""}, {f, f}, {"front", strings.Repeat("\x00", 9)}} {
			got, next, ok := Next(x.front+f+x.back, len(x.front))
			if got != body || next != len(x.front)+len(f) || !ok {
				t.Errorf("a body of %d bytes between %d and %d: place %d, %v", len(body), len(x.front), len(x.back), next, ok)
			}
		}
	}
}

func TestNextWithoutFrame(t *testing.T) {
	f := framed(t, "ab")
	for _, at := range []int{math.MinInt, math.MinInt32, -11, -10, -8, -1, 1, 2, 3, 7, 8, 9, 10, 11, 18, math.MaxInt32, math.MaxInt - 8, math.MaxInt - 7, math.MaxInt} {
		if !noFrame(f, at) {
			t.Errorf("at %d", at)
		}
	}
	for _, s := range []string{"", "x", "\x00\x00\x00\x00", "\x00\x00\x00\x00\x00\x00\x00", "\xff\xff\xff\xff" + f[4:], "\x00\x00\x00\x80" + f[4:], "\x03" + f[1:], "\x01" + f[1:], f[:4] + f[4:8] + "ba"} {
		if !noFrame(s, 0) {
			t.Errorf("in %q", s)
		}
	}
}

// A frame's form alone is not enough: its body must be one that Frame takes.
func TestNextTooLong(t *testing.T) {
	for _, n := range []int{65537, 1 << 17} {
		if f := slowFrame(noise(n, 5)); !noFrame(f, 0) || Whole(f) != 0 {
			t.Errorf("a body of %d bytes", n)
		}
	}
}

// Where it was read from is another text's memory (rule R4).
func TestBodiesAreNewMemory(t *testing.T) {
	s := framed(t, "first") + framed(t, "second")
	begin := uintptr(unsafe.Pointer(unsafe.StringData(s)))
	shared := func(body string) bool {
		p := uintptr(unsafe.Pointer(unsafe.StringData(body)))
		return p >= begin && p < begin+uintptr(len(s))
	}
	if body, _, _ := Next(s, 0); shared(body) {
		t.Error("Next")
	}
	for body := range All(s) {
		if shared(body) {
			t.Error("All")
		}
	}
}

// P1.3

func TestWholeAndAll(t *testing.T) {
	ab, none, c := framed(t, "ab"), framed(t, ""), framed(t, "c")
	longest := framed(t, noise(65536, 9))
	for i, x := range []struct {
		s     string
		whole int
		all   []string
	}{
		{"", 0, nil},
		{"x", 0, nil},
		{ab + none + "x", 18, []string{"ab", ""}},
		{ab + none + c, 27, []string{"ab", "", "c"}},
		{"x" + ab, 0, nil},
		{ab + "x" + c, 10, []string{"ab"}},
		{ab + c[:8] + "d" + none, 10, []string{"ab"}},
		{none + none + none, 24, []string{"", "", ""}},
		{ab + c[:8], 10, []string{"ab"}},
		{ab + strings.Repeat("\x00", 64) + c, 10, []string{"ab"}},
		{c + longest + ab, len(longest) + 19, []string{"c", noise(65536, 9), "ab"}},
		{c + slowFrame(noise(65537, 9)) + ab, 9, []string{"c"}},
	} {
		if n := Whole(x.s); n != x.whole {
			t.Errorf("line %d: Whole: %d", i, n)
		}
		if l := slices.Collect(All(x.s)); !slices.Equal(l, x.all) {
			t.Errorf("line %d: All: %d bodies", i, len(l))
		}
	}
}

func TestAllLeftEarlyAndGoneOverAgain(t *testing.T) {
	want := []string{"ab", "", "c", "def"}
	s := ""
	for _, body := range want {
		s += framed(t, body)
	}
	all := All(s + "rest")
	for n := range len(want) + 1 {
		var got []string
		for body := range all {
			if len(got) == n {
				break
			}
			got = append(got, body)
		}
		if !slices.Equal(got, want[:n]) {
			t.Errorf("left behind %d: %q", n, got)
		}
		if got := slices.Collect(all); !slices.Equal(got, want) {
			t.Errorf("gone over again: %q", got)
		}
	}
	pairs := 0
	for range all {
		for range all {
			pairs++
		}
	}
	if pairs != len(want)*len(want) {
		t.Errorf("one going over within another: %d", pairs)
	}
}

// P1.4

func TestFrameWithWhateverBehind(t *testing.T) {
	for n := range 30 {
		body := noise(n, 11)
		f := framed(t, body)
		for m := range 30 {
			if got, next, ok := Next(f+noise(m, uint32(n)), 0); got != body || next != len(f) || !ok {
				t.Errorf("%d bytes, %d behind", n, m)
			}
		}
	}
}

func TestWholeOfFramesIsAll(t *testing.T) {
	s := ""
	for _, body := range bodies() {
		s += framed(t, body)
	}
	if Whole(s) != len(s) || !slices.Equal(slices.Collect(All(s)), bodies()) {
		t.Error("frames one behind the other")
	}
	for _, rest := range []string{"x", "\x00", strings.Repeat("\x00", 99), slowFrame("ab")[1:], "x" + slowFrame("ab")} {
		if Whole(s+rest) != len(s) || !slices.Equal(slices.Collect(All(s+rest)), bodies()) {
			t.Errorf("%q behind frames", rest)
		}
	}
}

func TestNoughtsAreNoFrame(t *testing.T) {
	for n := range 100 {
		s := strings.Repeat("\x00", n)
		if !noFrame(s, 0) || Whole(s) != 0 || len(slices.Collect(All(s))) != 0 {
			t.Errorf("%d noughts", n)
		}
	}
	if s := strings.Repeat("\x00", 1<<17); !noFrame(s, 0) || Whole(s) != 0 {
		t.Error("many noughts")
	}
}

func TestFrameWithOneByteChanged(t *testing.T) {
	for n := range 20 {
		f := []byte(framed(t, noise(n, 13)))
		for i := 4; i < len(f); i++ {
			for by := 1; by < 256; by++ {
				f[i] ^= byte(by)
				if !noFrame(string(f), 0) || Whole(string(f)) != 0 {
					t.Errorf("%d bytes, byte %d changed by %d", n, i, by)
				}
				f[i] ^= byte(by)
			}
		}
	}
	f := []byte(framed(t, noise(65536, 13)))
	for i := 4; i < len(f); i += 4093 {
		f[i] ^= 0x10
		if !noFrame(string(f), 0) {
			t.Errorf("the longest one, byte %d changed", i)
		}
		f[i] ^= 0x10
	}
}

func TestFrameThatIsCut(t *testing.T) {
	for n := range 40 {
		f := framed(t, noise(n, 17))
		for i := range len(f) {
			if !noFrame(f[:i], 0) || Whole(f[:i]) != 0 {
				t.Errorf("%d bytes, cut at %d", n, i)
			}
		}
	}
	f := framed(t, noise(65536, 17))
	for _, i := range []int{0, 1, 7, 8, 9, 65535, len(f) - 1} {
		if !noFrame(f[:i], 0) {
			t.Errorf("the longest one, cut at %d", i)
		}
	}
}

func TestMoreOfCrcIsCrcOfBoth(t *testing.T) {
	for n := range 30 {
		for m := range 30 {
			a, b := noise(n, 19), noise(m, 23)
			if More(Crc(a), b) != Crc(a+b) {
				t.Errorf("%d and %d bytes", n, m)
			}
		}
	}
}
