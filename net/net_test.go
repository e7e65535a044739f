package net

import (
	"math"
	"math/big"
	"math/rand/v2"
	"slices"
	"strconv"
	"strings"
	"testing"
	"unsafe"

	"redress/api"
)

// pack is a packet from 1 to 2.
func pack(data string) api.Packet { return api.Packet{From: 1, To: 2, Data: data} }

// says tells where a call's answer is another one.
func says(t *testing.T, what string, got, wanted bool) {
	t.Helper()
	if got != wanted {
		t.Errorf("%s: %v", what, got)
	}
}

// comes tells where another packet comes.
func comes(t *testing.T, n *Net, i int, wanted api.Packet) {
	t.Helper()
	if p, ok := n.Come(i); p != wanted || !ok {
		t.Errorf("Come(%d): %d to %d, %.20q, %v; not %d to %d, %.20q", i, p.From, p.To, p.Data, ok, wanted.From, wanted.To, wanted.Data)
	}
}

// none tells where a packet comes.
func none(t *testing.T, n *Net, i int) {
	t.Helper()
	if p, ok := n.Come(i); p != (api.Packet{}) || ok {
		t.Errorf("Come(%d): %d to %d, %.20q, %v; not none", i, p.From, p.To, p.Data, ok)
	}
}

// waits tells where other than so many packets are on their way.
func waits(t *testing.T, n *Net, wanted int) {
	t.Helper()
	if n.Waiting() != wanted {
		t.Errorf("Waiting: %d, not %d", n.Waiting(), wanted)
	}
}

// sent is a net with packets from 1 to 2 on their way.
func sent(t *testing.T, data ...string) *Net {
	t.Helper()
	n := New()
	for _, s := range data {
		says(t, "Send", n.Send(pack(s)), true)
	}
	return n
}

// row is all packets on their way, the first one first; the net itself stays as it is.
func row(n *Net) []api.Packet {
	n = n.Twin()
	var l []api.Packet
	for n.Waiting() > 0 {
		if p, ok := n.Come(0); ok {
			l = append(l, p)
		}
	}
	return l
}

// datas is the bytes of all packets on their way, with a blank between two.
func datas(n *Net) string {
	var l []string
	for _, p := range row(n) {
		l = append(l, p.Data)
	}
	return strings.Join(l, " ")
}

// stands tells where other packets are on their way.
func stands(t *testing.T, n *Net, wanted string) {
	t.Helper()
	if s := datas(n); s != wanted {
		t.Errorf("on their way: %.60q, not %.60q", s, wanted)
	}
}

// isCut says whether a packet from a to b doesn't come to be on its way.
func isCut(n *Net, a, b int) bool {
	n = n.Twin()
	n.Lose(0) // lest it be full
	before := n.Waiting()
	n.Send(api.Packet{From: a, To: b})
	return n.Waiting() == before
}

// full is a net with 1024 packets on their way, of the bytes 0 to 1023.
func full(t *testing.T) *Net {
	t.Helper()
	n := New()
	for i := range 1024 {
		says(t, "Send of number "+strconv.Itoa(i), n.Send(pack(strconv.Itoa(i))), true)
	}
	return n
}

// call is a call that changes a net on which two packets, and no more than 1023, are on their way.
type call struct {
	name string
	do   func(n *Net)
}

func calls() []call {
	return []call{
		{"Send", func(n *Net) { n.Send(pack("x")) }},
		{"Come", func(n *Net) { n.Come(0) }},
		{"Lose", func(n *Net) { n.Lose(1) }},
		{"Dup", func(n *Net) { n.Dup(0) }},
		{"Cut", func(n *Net) { n.Cut(1, 2, true) }},
		{"Cut of another one", func(n *Net) { n.Cut(3, 1, true) }},
		{"no more cut", func(n *Net) { n.Cut(7, 8, false) }},
	}
}

// same says whether two nets have the same packets and, of the numbers from 0 to 9, the same ways cut.
func same(x, y *Net) bool {
	// What is on a way that is cut comes where nothing is.
	open := func(n *Net) *Net {
		n = n.Twin()
		for a := range 10 {
			for b := range 10 {
				n.Cut(a, b, false)
			}
		}
		return n
	}
	for a := range 10 {
		for b := range 10 {
			if isCut(x, a, b) != isCut(y, a, b) {
				return false
			}
		}
	}
	return slices.Equal(row(open(x)), row(open(y)))
}

func TestExamples(t *testing.T) {
	n := New()
	says(t, "Send(P(a))", n.Send(pack("a")), true)
	says(t, "Send(P(b))", n.Send(pack("b")), true)
	says(t, "Send(P(c))", n.Send(pack("c")), true)
	comes(t, n, -1, pack("c"))
	says(t, "Dup(0)", n.Dup(0), true)
	waits(t, n, 3)

	comes(t, n, 0, pack("a"))
	comes(t, n, 3, pack("a"))
	comes(t, n, 0, pack("b"))
	says(t, "Lose(0)", n.Lose(0), false)

	n = New()
	n.Cut(2, 1, true)
	says(t, "Send(P(a))", n.Send(pack("a")), true)
	waits(t, n, 0)
	n.Cut(1, 2, false)
	says(t, "Send(P(b))", n.Send(pack("b")), true)
	n.Cut(1, 2, true)
	none(t, n, 0)
	waits(t, n, 0)
}

// P3.1

func TestNew(t *testing.T) {
	n := New()
	if n == nil || New() == New() {
		t.Fatal("no net, or two that are one")
	}
	waits(t, n, 0)
	none(t, n, 0)
	for a := -3; a < 10; a++ {
		for b := -3; b < 10; b++ {
			p := api.Packet{From: a, To: b, Data: "x"}
			says(t, "Send", n.Send(p), true)
			comes(t, n, 0, p)
		}
	}
}

func TestWaiting(t *testing.T) {
	n := New()
	steps := []struct {
		name   string
		do     func()
		wanted int
	}{
		{"Send", func() { n.Send(pack("a")) }, 1},
		{"Send of no bytes", func() { n.Send(pack("")) }, 2},
		{"Send of the same", func() { n.Send(pack("a")) }, 3},
		{"Send of too much", func() { n.Send(pack(strings.Repeat("a", 8193))) }, 3},
		{"Dup", func() { n.Dup(1) }, 4},
		{"Waiting", func() { n.Waiting() }, 4},
		{"Twin", func() { n.Twin().Send(pack("b")) }, 4},
		{"Cut", func() { n.Cut(1, 2, true) }, 4},
		{"Send on a way that is cut", func() { n.Send(pack("b")) }, 4},
		{"Come on it", func() { n.Come(0) }, 3},
		{"Lose on it", func() { n.Lose(0) }, 2},
		{"no more cut", func() { n.Cut(1, 2, false) }, 2},
		{"Come", func() { n.Come(0) }, 1},
		{"Lose", func() { n.Lose(0) }, 0},
		{"Lose of none", func() { n.Lose(0) }, 0},
		{"Come of none", func() { n.Come(0) }, 0},
		{"Dup of none", func() { n.Dup(0) }, 0},
	}
	for _, s := range steps {
		s.do()
		if n.Waiting() != s.wanted {
			t.Fatalf("behind %s: %d, not %d", s.name, n.Waiting(), s.wanted)
		}
	}
}

// P3.2

func TestSendOfWhatever(t *testing.T) {
	all := make([]byte, 256)
	for i := range all {
		all[i] = byte(i)
	}
	ends := []int{math.MinInt, math.MinInt32, -1, 0, 1, 1024, math.MaxInt32, math.MaxInt}
	n := New()
	var wanted []api.Packet
	for _, from := range ends {
		for _, to := range ends {
			p := api.Packet{From: from, To: to, Data: string(all[:len(wanted)*4])}
			says(t, "Send", n.Send(p), true)
			wanted = append(wanted, p)
		}
	}
	waits(t, n, 64)
	for _, p := range wanted {
		comes(t, n, 0, p)
	}
	none(t, n, 0)
}

func TestLongestPacket(t *testing.T) {
	n := sent(t, "a")
	for length, wanted := range map[int]bool{8190: true, 8191: true, 8192: true, 8193: false, 8194: false, 16384: false, 1 << 20: false} {
		p := pack(strings.Repeat("x", length))
		says(t, "Send of "+strconv.Itoa(length), n.Send(p), wanted)
		if wanted {
			comes(t, n, 1, p)
		}
		waits(t, n, 1)
	}
	n.Cut(1, 2, true)
	says(t, "Send of too much on a way that is cut", n.Send(pack(strings.Repeat("x", 8193))), false)
	says(t, "Send of the most on a way that is cut", n.Send(pack(strings.Repeat("x", 8192))), true)
	n.Cut(1, 2, false)
	stands(t, n, "a")
}

func TestMostPackets(t *testing.T) {
	n := full(t)
	waits(t, n, 1024)
	before := datas(n)
	says(t, "the 1025th", n.Send(pack("x")), false)
	says(t, "the 1025th, of no bytes", n.Send(api.Packet{}), false)
	says(t, "the 1025th, by Dup", n.Dup(0), false)
	n.Cut(3, 4, true)
	says(t, "the 1025th, on a way that is cut", n.Send(api.Packet{From: 3, To: 4}), false)
	stands(t, n, before)

	comes(t, n, 1023, pack("1023"))
	says(t, "one on a way that is cut, with 1023 on theirs", n.Send(api.Packet{From: 3, To: 4}), true)
	waits(t, n, 1023)
	says(t, "the 1024th again", n.Send(pack("x")), true)
	says(t, "the 1025th", n.Send(pack("y")), false)
	says(t, "Lose", n.Lose(0), true)
	says(t, "the 1024th by Dup", n.Dup(-1), true)
	says(t, "the 1025th by Dup", n.Dup(-1), false)
	n.Cut(1, 2, true)
	none(t, n, 0)
	n.Cut(1, 2, false)
	says(t, "behind one that did not come", n.Send(pack("z")), true)
	waits(t, n, 1024)
	stands(t, n, strings.TrimSuffix(strings.TrimPrefix(before, "0 1 "), "1023")+"x x z")
}

// numbers are those that a packet is asked for by, the ends of what an int holds among them.
func numbers() []int {
	l := []int{math.MinInt, math.MinInt + 1, math.MinInt32, math.MinInt32 - 1, math.MaxInt32, math.MaxInt32 + 1, math.MaxInt - 1, math.MaxInt}
	for i := -25; i <= 25; i++ {
		l = append(l, i)
	}
	return l
}

// modulo is i modulo n, from 0 to n - 1.
func modulo(i, n int) int {
	return int(new(big.Int).Mod(big.NewInt(int64(i)), big.NewInt(int64(n))).Int64())
}

func TestNumbers(t *testing.T) {
	letters := strings.Split("a b c d e f g", " ")
	for most := range letters {
		there := letters[:most+1]
		for _, i := range numbers() {
			at := modulo(i, len(there))
			others := strings.Join(slices.Delete(slices.Clone(there), at, at+1), " ")

			n := sent(t, there...)
			comes(t, n, i, pack(there[at]))
			stands(t, n, others)

			n = sent(t, there...)
			says(t, "Lose("+strconv.Itoa(i)+")", n.Lose(i), true)
			stands(t, n, others)

			n = sent(t, there...)
			says(t, "Dup("+strconv.Itoa(i)+")", n.Dup(i), true)
			stands(t, n, strings.Join(there, " ")+" "+there[at])

			n = sent(t, there...)
			n.Cut(1, 2, true)
			none(t, n, i)
			n.Cut(1, 2, false)
			stands(t, n, others)
		}
	}
}

func TestNumbersOfMany(t *testing.T) {
	for _, i := range append(numbers(), 1022, 1023, 1024, 1025, -1023, -1024, -1025) {
		at := strconv.Itoa(modulo(i, 1024))
		n := full(t)
		comes(t, n, i, pack(at))
		n = full(t)
		says(t, "Lose", n.Lose(i), true)
		if slices.Contains(row(n), pack(at)) || n.Waiting() != 1023 {
			t.Errorf("Lose(%d) loses another one than %s", i, at)
		}
	}
}

func TestNothingOnItsWay(t *testing.T) {
	empty := sent(t, "a", "b")
	empty.Come(0)
	empty.Lose(0)
	for _, n := range []*Net{New(), empty} {
		for _, i := range numbers() {
			none(t, n, i)
			says(t, "Lose", n.Lose(i), false)
			says(t, "Dup", n.Dup(i), false)
		}
		waits(t, n, 0)
		says(t, "Send", n.Send(pack("c")), true)
		stands(t, n, "c")
	}
}

func TestDup(t *testing.T) {
	n := New()
	p, q := api.Packet{From: -7, To: 9, Data: "p"}, api.Packet{From: 9, To: 9}
	n.Send(p)
	n.Send(q)
	says(t, "Dup", n.Dup(0), true)
	says(t, "Dup", n.Dup(1), true)
	says(t, "Dup of a copy", n.Dup(2), true)
	if l := row(n); !slices.Equal(l, []api.Packet{p, q, p, q, p}) {
		t.Errorf("on their way: %v", l)
	}
	n.Cut(9, 9, true)
	says(t, "Dup on a way that is cut", n.Dup(1), true)
	n.Cut(9, 9, false)
	if l := row(n); !slices.Equal(l, []api.Packet{p, q, p, q, p, q}) {
		t.Errorf("on their way: %v", l)
	}
	says(t, "Lose of the one", n.Lose(0), true)
	comes(t, n, 1, p)
}

// P3.3

func TestCut(t *testing.T) {
	for _, w := range [][2]int{{1, 2}, {2, 1}, {0, 3}, {3, 3}, {0, 0}, {-1, 1}, {math.MinInt, math.MaxInt}, {math.MaxInt, math.MinInt}, {math.MinInt, math.MinInt}, {1, 1 << 32}} {
		a, b := w[0], w[1]
		there, back := api.Packet{From: a, To: b, Data: "there"}, api.Packet{From: b, To: a, Data: "back"}
		for _, turned := range []bool{false, true} {
			n := New()
			if turned {
				n.Cut(b, a, true)
			} else {
				n.Cut(a, b, true)
			}
			says(t, "Send there", n.Send(there), true)
			says(t, "Send back", n.Send(back), true)
			waits(t, n, 0)
			none(t, n, 0)
			n.Cut(a, b, false)
			says(t, "Send there", n.Send(there), true)
			says(t, "Send back", n.Send(back), true)
			comes(t, n, 0, there)
			comes(t, n, 0, back)
		}
	}
}

func TestCutAndNotAnyMore(t *testing.T) {
	steps := []struct {
		a, b    int
		on, cut bool
	}{
		{1, 2, false, false}, // one that is not
		{1, 2, true, true},
		{1, 2, true, true}, // twice
		{2, 1, true, true},
		{1, 2, false, false}, // and once not any more
		{2, 1, true, true},
		{1, 2, false, false}, // the other way about
		{1, 2, true, true},
		{2, 1, false, false},
		{2, 1, false, false},
		{1, 3, true, false}, // others
		{2, 2, true, false},
		{1, 1, true, false},
		{-1, 2, true, false},
		{1, -2, true, false},
		{-1, -2, true, false},
		{0, 3, true, false},
		{2, 1, true, true},
		{1, 3, false, true},
		{2, 2, false, true},
		{-1, -2, false, true},
		{1, 2, false, false},
	}
	n := New()
	for i, s := range steps {
		n.Cut(s.a, s.b, s.on)
		if isCut(n, 1, 2) != s.cut || isCut(n, 2, 1) != s.cut {
			t.Errorf("step %d: the way of 1 and 2: cut %v, not %v", i, !s.cut, s.cut)
		}
	}
	if !isCut(n, 1, 1) || !isCut(n, 0, 3) || isCut(n, 1, 3) || isCut(n, 0, 1) {
		t.Error("other ways")
	}
}

// Of numbers near and far each way is cut alone.
func TestCutOfOneWay(t *testing.T) {
	near := []int{0, 1, 2, 3, 4, 5, 6, 7, 8, 9}
	far := []int{math.MinInt, -1 << 32, -2, -1, 0, 1, 2, 1 << 32, math.MaxInt}
	for _, l := range [][]int{near, far} {
		for _, a := range l {
			for _, b := range l {
				n := New()
				n.Cut(a, b, true)
				for _, c := range l {
					for _, d := range l {
						if isCut(n, c, d) != (a == c && b == d || a == d && b == c) {
							t.Errorf("%d and %d are cut: the way of %d and %d", a, b, c, d)
						}
					}
				}
			}
		}
	}
}

func TestOnAWayThatIsCut(t *testing.T) {
	n := sent(t, "a", "b", "c", "d")
	other := api.Packet{From: 3, To: 2, Data: "other"}
	says(t, "Send", n.Send(other), true)
	n.Cut(2, 1, true)
	waits(t, n, 5) // they stay
	none(t, n, 1)
	waits(t, n, 4)
	says(t, "Send", n.Send(pack("lost")), true)
	says(t, "Lose", n.Lose(1), true)
	comes(t, n, 2, other)
	n.Cut(1, 2, false)
	stands(t, n, "a d") // what is let through again
	comes(t, n, 1, pack("d"))
	comes(t, n, 0, pack("a"))
}

// A packet whose way back is the same one is held by it, too.
func TestOnAWayBackThatIsCut(t *testing.T) {
	n := New()
	back := api.Packet{From: 2, To: 1, Data: "back"}
	says(t, "Send", n.Send(back), true)
	n.Cut(1, 2, true)
	n.Cut(1, 2, false)
	says(t, "Dup", n.Dup(0), true)
	comes(t, n, 0, back)
	n.Cut(1, 2, true)
	none(t, n, 0)
	waits(t, n, 0)
}

func TestWhatIsNotCutIsNotKept(t *testing.T) {
	n := New()
	for i := range 100 {
		n.Cut(i, -i, true)
		n.Cut(-i, i, true)
	}
	for i := range 100 {
		n.Cut(-i, i, false)
	}
	if len(n.cut) != 0 {
		t.Error("ways that are kept:", len(n.cut))
	}
}

// P3.4

func TestTwin(t *testing.T) {
	begin := func() *Net {
		n := sent(t, "a", "b")
		n.Send(api.Packet{From: 3, To: 4, Data: "c"})
		n.Cut(3, 4, true)
		n.Cut(8, 7, true)
		return n
	}
	n := begin()
	for _, c := range calls() {
		x, y := n.Twin(), n.Twin()
		if x == n || x == y || !same(x, n) || !same(y, begin()) {
			t.Fatal("no twins")
		}
		c.do(x)
		if same(x, n) || !same(n, begin()) || !same(y, begin()) {
			t.Errorf("%s of a twin", c.name)
		}
		m := begin()
		z := m.Twin()
		c.do(m)
		if !same(m, x) || !same(z, begin()) {
			t.Errorf("%s of one that has a twin", c.name)
		}
		c.do(z)
		if !same(z, m) {
			t.Errorf("%s of both", c.name)
		}
	}
}

// Both go on with what they have, though they sent the same ahead.
func TestTwinGoesOnAlone(t *testing.T) {
	n := sent(t, "a", "b", "c")
	x := n.Twin()
	says(t, "Send", n.Send(pack("n")), true)
	says(t, "Send", x.Send(pack("x")), true)
	y := x.Twin()
	says(t, "Lose", n.Lose(0), true)
	comes(t, x, 2, pack("c"))
	says(t, "Dup", y.Dup(1), true)
	stands(t, n, "b c n")
	stands(t, x, "a b x")
	stands(t, y, "a b c x b")
}

func TestTwinOfAFullOne(t *testing.T) {
	n := full(t)
	x := n.Twin()
	waits(t, x, 1024)
	says(t, "Send", x.Send(pack("x")), false)
	says(t, "Dup", x.Dup(0), false)
	says(t, "Lose", n.Lose(0), true)
	says(t, "Send", x.Send(pack("x")), false)
	says(t, "Send", n.Send(pack("x")), true)
	comes(t, x, 0, pack("0"))
	comes(t, n, 0, pack("1"))
}

func TestNilNet(t *testing.T) {
	var n *Net
	for _, p := range []api.Packet{{}, pack("a"), pack(strings.Repeat("a", 8193))} {
		says(t, "Send", n.Send(p), false)
	}
	for _, i := range numbers() {
		none(t, n, i)
		says(t, "Lose", n.Lose(i), false)
		says(t, "Dup", n.Dup(i), false)
	}
	n.Cut(1, 2, true)
	n.Cut(1, 2, false)
	waits(t, n, 0)
	if n.Twin() != nil {
		t.Error("Twin of a nil net")
	}
}

// The chapter says nothing of a Net that New did not make; that no call panics holds for it, too (rule R1).
func TestZeroNet(t *testing.T) {
	if !same(&Net{}, New()) {
		t.Error("not as a new one")
	}
	for _, c := range calls() {
		n := &Net{}
		c.do(n)
		c.do(n.Twin())
		c.do((&Net{}).Twin())
	}
	n := &Net{}
	none(t, n, 0)
	n.Cut(1, 2, false)
	says(t, "Send", n.Send(pack("a")), true)
	n.Cut(1, 2, true)
	none(t, n, 0)
}

// P3.5

// slowNet is a net as the chapter words it: a row of packets, and a row of ways that were cut, or not any more.
type slowNet struct {
	row  []api.Packet
	cuts []slowCut
}

type slowCut struct {
	a, b int
	on   bool
}

func (n *slowNet) isCut(p api.Packet) bool {
	cut := false
	for _, c := range n.cuts {
		if c.a == p.From && c.b == p.To || c.b == p.From && c.a == p.To {
			cut = c.on
		}
	}
	return cut
}

func (n *slowNet) send(p api.Packet) bool {
	if len(p.Data) > 8192 || len(n.row) >= 1024 {
		return false
	}
	if !n.isCut(p) {
		n.row = append(n.row, p)
	}
	return true
}

func (n *slowNet) come(i int) (api.Packet, bool) {
	if len(n.row) == 0 {
		return api.Packet{}, false
	}
	p := n.row[modulo(i, len(n.row))]
	n.lose(i)
	if n.isCut(p) {
		return api.Packet{}, false
	}
	return p, true
}

func (n *slowNet) lose(i int) bool {
	if len(n.row) == 0 {
		return false
	}
	at := modulo(i, len(n.row))
	n.row = slices.Concat(n.row[:at], n.row[at+1:])
	return true
}

func (n *slowNet) dup(i int) bool {
	if len(n.row) == 0 || len(n.row) >= 1024 {
		return false
	}
	n.row = append(n.row, n.row[modulo(i, len(n.row))])
	return true
}

// walker goes with a net and the chapter's one through the same calls, and counts what was sent and doubled, and what came.
type walker struct {
	r    *rand.Rand
	x    *Net
	slow *slowNet
	sent map[api.Packet]int
	came map[api.Packet]int
}

// number is one to ask by: mostly small.
func (w *walker) number() int {
	if w.r.IntN(8) == 0 {
		return int(w.r.Uint64())
	}
	return w.r.IntN(12) - 4
}

// packet is one of few, lest none be sent twice.
func (w *walker) packet() api.Packet {
	p := api.Packet{From: w.r.IntN(4), To: w.r.IntN(4), Data: strconv.Itoa(w.r.IntN(5))}
	if w.r.IntN(20) == 0 {
		p.Data = strings.Repeat(p.Data, 8191+w.r.IntN(4))
	}
	return p
}

// step makes one call of both; what it was, and whether both answer the same.
func (w *walker) step() (string, bool) {
	switch i := w.number(); w.r.IntN(12) {
	case 0, 1, 2, 3, 4:
		p := w.packet()
		got := w.x.Send(p)
		if got {
			w.sent[p]++
		}
		return "Send", got == w.slow.send(p)
	case 5, 6:
		p, got := w.x.Come(i)
		if got {
			w.came[p]++
		}
		q, wanted := w.slow.come(i)
		return "Come", p == q && got == wanted
	case 7:
		return "Lose", w.x.Lose(i) == w.slow.lose(i)
	case 8, 9:
		if n := len(w.slow.row); n > 0 && n < 1024 {
			w.sent[w.slow.row[modulo(i, n)]]++
		}
		return "Dup", w.x.Dup(i) == w.slow.dup(i)
	case 10:
		c := slowCut{w.r.IntN(4), w.r.IntN(4), w.r.IntN(3) == 0}
		w.x.Cut(c.a, c.b, c.on)
		w.slow.cuts = append(w.slow.cuts, c)
		return "Cut", true
	}
	w.x = w.x.Twin()
	return "Twin", true
}

func TestAsTheChapterWordsIt(t *testing.T) {
	for seed := range 60 {
		w := &walker{rand.New(rand.NewPCG(3, uint64(seed))), New(), &slowNet{}, map[api.Packet]int{}, map[api.Packet]int{}}
		if seed%10 == 0 { // near the most
			for range 1020 {
				w.sent[pack("")]++
				w.x.Send(pack(""))
				w.slow.send(pack(""))
			}
		}
		for i := range 500 {
			what, ok := w.step()
			if !ok || w.x.Waiting() != len(w.slow.row) || !slices.Equal(w.x.flight, w.slow.row) {
				t.Fatalf("seed %d, step %d: %s: not as the chapter words it", seed, i, what)
			}
			for p, times := range w.came {
				if times > w.sent[p] {
					t.Fatalf("seed %d, step %d: %s: %v comes oftener than it was sent and doubled", seed, i, what, p)
				}
			}
		}
	}
}

func TestAllComeOnce(t *testing.T) {
	for seed := range 20 {
		r := rand.New(rand.NewPCG(5, uint64(seed)))
		n, out, back := New(), map[api.Packet]int{}, map[api.Packet]int{}
		for i := range 400 {
			p := api.Packet{From: r.IntN(4), To: r.IntN(4), Data: strconv.Itoa(i)}
			says(t, "Send", n.Send(p), true)
			out[p]++
			if r.IntN(3) == 0 {
				p, _ := n.Come(int(r.Uint64()))
				back[p]++
			}
		}
		for n.Waiting() > 0 {
			p, ok := n.Come(int(r.Uint64()))
			says(t, "Come", ok, true)
			back[p]++
		}
		for p, times := range out {
			if times != 1 || back[p] != 1 {
				t.Errorf("seed %d: %v comes %d times", seed, p, back[p])
			}
		}
		if len(back) != len(out) {
			t.Errorf("seed %d: %d were sent, %d come", seed, len(out), len(back))
		}
	}
}

func TestAllComeInOrder(t *testing.T) {
	n := New()
	next := 0
	for i := range 3000 {
		says(t, "Send", n.Send(api.Packet{From: i % 4, To: i % 3, Data: strconv.Itoa(i)}), true)
		for i%3 == 2 && n.Waiting() > i%50 {
			comes(t, n, 0, api.Packet{From: next % 4, To: next % 3, Data: strconv.Itoa(next)})
			next++
		}
	}
	for ; n.Waiting() > 0; next++ {
		comes(t, n, 0, api.Packet{From: next % 4, To: next % 3, Data: strconv.Itoa(next)})
	}
	if next != 3000 {
		t.Error("come:", next)
	}
}

// Rules R3, R4 and R6

// within says whether a text's bytes lie in another's memory.
func within(s, memory string) bool {
	p, begin := uintptr(unsafe.Pointer(unsafe.StringData(s))), uintptr(unsafe.Pointer(unsafe.StringData(memory)))
	return p >= begin && p < begin+uintptr(len(memory))
}

func TestPacketsAreNewMemory(t *testing.T) {
	memory := strings.Repeat("memory", 100)
	n := New()
	says(t, "Send", n.Send(pack(memory[6:12])), true)
	says(t, "Dup", n.Dup(0), true)
	says(t, "Dup", n.Dup(1), true)
	all := []string{memory}
	for _, x := range []*Net{n, n.Twin(), n.Twin()} {
		for _, p := range x.flight {
			all = append(all, p.Data)
		}
		p, _ := x.Twin().Come(0)
		all = append(all, p.Data)
	}
	for i, s := range all {
		for j, m := range all {
			if i != j && within(s, m) {
				t.Errorf("number %d lies in the memory of number %d", i, j)
			}
		}
	}
}

// What has come or is lost is not kept, in no spare room either.
func TestWhatIsGoneIsNotKept(t *testing.T) {
	n := full(t)
	for i := range 512 {
		n.Come(i)
		n.Lose(-i)
	}
	for i, p := range n.flight[:cap(n.flight)] {
		if p != (api.Packet{}) {
			t.Fatalf("number %d is kept: %v", i, p)
		}
	}
}

func TestNetsKnowNothingOfOneAnother(t *testing.T) {
	n, other := New(), New()
	for _, c := range calls() {
		c.do(n)
	}
	full(t)
	if !same(other, New()) {
		t.Error("what is done to the one is done to the other")
	}
}
