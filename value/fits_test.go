package value_test

import (
	"math"
	"slices"
	"strings"
	"testing"

	"redress/api"
	"redress/check"
	"redress/value"
)

func TestExamples(t *testing.T) {
	s := read(t, "module m; record O { account: text; amount: int; } choice W { a: W; b: int; }")
	order := rec(text("x"), num(5))
	fits(t, s, sorts("O"), order, api.OK)
	if account, amount, ok := value.Order(s, "O", order); account != "x" || amount != 5 || !ok {
		t.Errorf("%q, %d, %t", account, amount, ok)
	}
	fits(t, s, sorts("list int"), api.Value{{Kind: api.VList, Kids: 2}, {Kind: api.VInt}}, api.ErrValue)
	fits(t, s, sorts("int"), text(""), api.ErrValue)
	for _, x := range []struct {
		of   string
		want api.Value
	}{{"O", rec(text(""), num(0))}, {"W", arm(1, num(0))}, {"opt O", opt()}} {
		if v, e := leastOf(t, s, sorts(x.of)); e != api.OK || !slices.Equal(v, x.want) {
			t.Errorf("%s: %d, %v", x.of, e, v)
		}
	}
	v := list(opt(no()), num(1))
	for at, want := range map[int]int{0: 4, 1: 3, 9: -1} {
		if end := value.End(v, at); end != want {
			t.Errorf("behind %d: %d", at, end)
		}
	}
}

// fitting are values that fit.
var fitting = []struct {
	of string
	v  api.Value
}{
	{"none", no()}, {"bool", flag(0)}, {"bool", flag(1)}, {"int", num(0)}, {"int", num(-1)}, {"int", num(math.MaxInt64)}, {"int", num(math.MinInt64)},
	{"text", text("")}, {"text", text("x")}, {"text", text("\x00\xff")}, {"text", wide(4095)},
	{"list none", list()}, {"list none", list(no())}, {"list none", list(no(), no(), no())}, {"list int", list(num(1), num(-2))}, {"list list text", list(list(), list(text("a"), text("")), list())},
	{"opt bool", opt()}, {"opt bool", opt(flag(1))}, {"opt opt none", opt()}, {"opt opt none", opt(opt())}, {"opt opt none", opt(opt(no()))}, {"opt list opt int", opt(list(opt(), opt(num(9)), opt()))},
	{"O", rec(text("x"), num(5))}, {"list O", list(rec(text(""), num(0)), rec(text("y"), num(-1)))}, {"opt O", opt(rec(text("x"), num(5)))},
	{"E", rec()}, {"list E", list(rec(), rec())}, {"W", arm(1, num(3))}, {"W", arm(0, arm(0, arm(1, num(3))))}, {"Q", rec(list())}, {"Q", rec(list(rec(list()), rec(list(rec(list())))))},
	{"P", rec(opt(), arm(1, num(0)), no(), flag(1))}, {"P", rec(opt(rec(opt(), arm(0, arm(1, num(0))), no(), flag(0))), arm(1, num(0)), no(), flag(1))},
	{"C", arm(0, rec())}, {"C", arm(2, list())}, {"C", arm(2, list(arm(0, rec()), arm(2, list()), arm(4, text("x"))))}, {"C", arm(3, opt())}, {"C", arm(3, opt(arm(3, opt(arm(4, text(""))))))}, {"C", arm(4, text("x"))}, {"C", arm(1, rec(opt(), arm(1, num(0)), no(), flag(1)))},
	{"X", rec(opt(list(arm(1, num(2)))), arm(4, text("t")), num(8), rec(text("o"), num(9)), text("acc"))},
}

func TestFitting(t *testing.T) {
	s := read(t, sample)
	fits(t, s, sorts("none"), no(), api.OK)
	for _, x := range fitting {
		fits(t, s, sorts(x.of), x.v, api.OK)
	}
}

// What fits one type fits no type of another shape.
func TestFittingOthers(t *testing.T) {
	s, others := read(t, sample), 0
	for _, x := range fitting {
		for _, of := range fitting {
			if asked(t, s, sorts(of.of), x.v) == api.ErrValue {
				others++
			}
		}
	}
	if others < 1500 {
		t.Errorf("%d of %d", others, len(fitting)*len(fitting))
	}
}

// unfit are changes of one part, each of which makes a value none of its type, or stays away.
var unfit = []struct {
	what string
	do   func(n *api.Node) bool
}{
	{"no kind", func(n *api.Node) bool { n.Kind = 0; return true }},
	{"a kind beyond", func(n *api.Node) bool { n.Kind = 9; return true }},
	{"the last kind", func(n *api.Node) bool { n.Kind = 255; return true }},
	{"the next kind", func(n *api.Node) bool { n.Kind++; return true }},
	{"the kind ahead", func(n *api.Node) bool { n.Kind--; return true }},
	{"a part less", func(n *api.Node) bool { n.Kids--; return true }},
	{"one more part", func(n *api.Node) bool { n.Kids++; return true }},
	{"two more parts", func(n *api.Node) bool { n.Kids += 2; return true }},
	{"all parts there could be", func(n *api.Node) bool { n.Kids = math.MaxInt; return true }},
	{"fewer than no parts", func(n *api.Node) bool { n.Kids = -1; return true }},
	{"far fewer", func(n *api.Node) bool { n.Kids = math.MinInt; return true }},
	{"a text", func(n *api.Node) bool { n.Text = "x"; return n.Kind != api.VText }},
	{"a byte 0", func(n *api.Node) bool { n.Text = "\x00"; return n.Kind != api.VText }},
	{"a number", func(n *api.Node) bool { n.Int += 5; return n.Kind != api.VInt }},
	{"the number 2", func(n *api.Node) bool { n.Int = 2; return n.Kind == api.VBool }},
	{"a number below 0", func(n *api.Node) bool { n.Int = -1; return n.Kind != api.VInt }},
	{"the least number", func(n *api.Node) bool { n.Int = math.MinInt64; return n.Kind != api.VInt }},
	{"the greatest number", func(n *api.Node) bool { n.Int = math.MaxInt64; return n.Kind != api.VInt }},
	{"a number beyond 32 bits", func(n *api.Node) bool { n.Int = 1 << 32; return n.Kind != api.VInt }},
}

func TestUnfit(t *testing.T) {
	s := read(t, sample)
	for _, x := range fitting {
		for i := range x.v {
			for _, u := range unfit {
				v := slices.Clone(x.v)
				if u.do(&v[i]) && !slices.Equal(v, x.v) {
					fits(t, s, sorts(x.of), v, api.ErrValue)
				}
			}
		}
	}
}

// A part is left out, doubled, put ahead or behind.
func TestUnfitRows(t *testing.T) {
	s := read(t, sample)
	for _, x := range fitting {
		of := sorts(x.of)
		for _, n := range []api.Node{{}, {Kind: api.VNone}, {Kind: api.VInt}, {Kind: api.VText}, {Kind: api.VList}, {Kind: api.VRecord}, x.v[0], x.v[len(x.v)-1]} {
			fits(t, s, of, append(slices.Clone(x.v), n), api.ErrValue)
			asked(t, s, of, append(api.Value{n}, x.v...))
		}
		for i := range x.v {
			fits(t, s, of, x.v[:i], api.ErrValue)
			asked(t, s, of, slices.Delete(slices.Clone(x.v), i, i+1))
			asked(t, s, of, slices.Insert(slices.Clone(x.v), i, x.v[i]))
			for j := range x.v {
				v := slices.Clone(x.v)
				v[i], v[j] = v[j], v[i]
				asked(t, s, of, v)
			}
		}
	}
}

func TestNothingFits(t *testing.T) {
	s := read(t, sample)
	for _, x := range fitting {
		fits(t, s, sorts(x.of), nil, api.ErrValue)
		fits(t, s, sorts(x.of), api.Value{}, api.ErrValue)
		fits(t, s, sorts(x.of), make(api.Value, 1), api.ErrValue)
		fits(t, s, sorts(x.of), make(api.Value, len(x.v)), api.ErrValue)
	}
}

// Every single part there is, of every type of one sort or two.
func TestSingleParts(t *testing.T) {
	s := read(t, sample)
	good := map[string]int{}
	for _, of := range []string{"none", "bool", "int", "text", "list none", "opt none", "list E", "opt list int", "O", "W", "Q", "E", "P", "C", "X"} {
		for kind := range 256 {
			for _, n := range []int64{0, 1, 2, 3, -1, math.MaxInt64, math.MinInt64} {
				for _, text := range []string{"", "x"} {
					for _, kids := range []int{0, 1, 2, -1, math.MaxInt, math.MinInt} {
						if kind > 12 && (n > 1 || kids > 1 || n+int64(kids) < 0) {
							continue
						}
						if asked(t, s, sorts(of), api.Value{{Kind: byte(kind), Int: n, Text: text, Kids: kids}}) == api.OK {
							good[of]++
						}
					}
				}
			}
		}
	}
	for of, want := range map[string]int{"none": 1, "bool": 2, "int": 7, "text": 2, "list none": 1, "opt none": 1, "list E": 1, "opt list int": 1, "E": 1, "O": 0, "W": 0, "Q": 0, "P": 0, "C": 0, "X": 0} {
		if good[of] != want {
			t.Errorf("%s: %d parts fit", of, good[of])
		}
	}
}

// rows goes through all rows of so many of these parts.
func rows(parts []api.Node, n int, do func(v api.Value)) {
	v := make(api.Value, n)
	var fill func(i int)
	fill = func(i int) {
		if i == n {
			do(v)
			return
		}
		for _, v[i] = range parts {
			fill(i + 1)
		}
	}
	fill(0)
}

// fewParts are parts that are right somewhere, and some that are right nowhere.
var fewParts = []api.Node{
	{Kind: api.VNone}, {Kind: api.VBool, Int: 1}, {Kind: api.VInt, Int: 2}, {Kind: api.VText, Text: "x"}, {Kind: api.VText, Kids: 1},
	{Kind: api.VList}, {Kind: api.VList, Kids: 1}, {Kind: api.VList, Kids: 2}, {Kind: api.VOpt}, {Kind: api.VOpt, Kids: 1}, {Kind: api.VOpt, Kids: 2},
	{Kind: api.VRecord}, {Kind: api.VRecord, Kids: 1}, {Kind: api.VRecord, Kids: 2}, {Kind: api.VChoice, Kids: 1}, {Kind: api.VChoice, Int: 1, Kids: 1}, {Kind: api.VChoice, Int: 2, Kids: 1}, {Kind: api.VChoice, Int: 1, Kids: 2},
}

// All short rows of these, of each type; no value that fits is less deep than the least one.
func TestShortRows(t *testing.T) {
	s := read(t, "module m; record E { } record O { a: text; b: opt int; } record Q { a: list Q; } choice W { a: W; b: int; c: E; }")
	for _, x := range []struct {
		of   string
		want int
	}{{"none", 1}, {"bool", 1}, {"int", 1}, {"text", 1}, {"list none", 3}, {"opt list int", 3}, {"list opt E", 4}, {"E", 1}, {"O", 1}, {"Q", 1}, {"W", 4}, {"opt W", 3}, {"list E", 3}} {
		of, n := sorts(x.of), 0
		least, _ := leastOf(t, s, of)
		x0, _, _ := grow(least)
		for length := range 4 {
			rows(fewParts, length, func(v api.Value) {
				if asked(t, s, of, v) != api.OK {
					return
				}
				n++
				if whole, _, _ := grow(v); whole.depth() < x0.depth() {
					t.Errorf("%s is less deep than %s", short(v), short(least))
				}
			})
		}
		if n != x.want {
			t.Errorf("%s: %d rows fit", x.of, n)
		}
	}
}

// wrongTypes are no types of the sample.
var wrongTypes = [][]api.Sort{
	nil, {}, {{}}, {{Kind: 8}}, {{Kind: 255}}, {{Kind: api.TList}}, {{Kind: api.TOpt}}, {{Kind: api.TNamed}}, {{Name: "O"}},
	{{Kind: api.TNone, Name: "O"}}, {{Kind: api.TBool, Name: "x"}}, {{Kind: api.TInt, Name: "int"}}, {{Kind: api.TText, Name: "\x00"}},
	{{Kind: api.TNamed, Name: "Z"}}, {{Kind: api.TNamed, Name: "o"}}, {{Kind: api.TNamed, Name: "S"}}, {{Kind: api.TNamed, Name: "g"}}, {{Kind: api.TNamed, Name: "m"}}, {{Kind: api.TNamed, Name: "int"}}, {{Kind: api.TNamed, Name: "account"}}, {{Kind: api.TNamed, Name: "O "}}, {{Kind: api.TNamed, Name: strings.Repeat("O", 100000)}},
	{{Kind: api.TInt}, {Kind: api.TInt}}, {{Kind: api.TNone}, {Kind: api.TList}}, {{Kind: api.TList, Name: "O"}, {Kind: api.TInt}}, {{Kind: api.TOpt, Name: "x"}, {Kind: api.TInt}}, {{Kind: api.TList}, {Kind: api.TOpt}},
	{{Kind: api.TNamed, Name: "O"}, {Kind: api.TNamed, Name: "O"}}, {{Kind: api.TNamed, Name: "O"}, {Kind: api.TInt}}, {{}, {Kind: api.TInt}}, {{Kind: api.TList}, {Kind: api.TInt, Name: "O"}}, {{Kind: api.TList}, {Kind: api.TNamed}}, {{Kind: api.TList}, {Kind: 8}, {Kind: api.TInt}}, {{Kind: api.TList}, {}},
	append(slices.Repeat([]api.Sort{{Kind: api.TList}}, 12), api.Sort{Kind: api.TInt}), slices.Repeat([]api.Sort{{Kind: api.TOpt}}, 12), append(slices.Repeat([]api.Sort{{Kind: api.TOpt}}, 12), api.Sort{Kind: api.TNamed, Name: "O"}),
	append(slices.Repeat([]api.Sort{{Kind: api.TList}}, 1000000), api.Sort{Kind: api.TInt}), append(slices.Repeat([]api.Sort{{Kind: api.TList}}, 10), api.Sort{Kind: api.TInt}, api.Sort{Kind: api.TInt}),
}

// values are right and wrong ones, to be handed in with what is wrong itself.
func values() []api.Value {
	return []api.Value{nil, no(), num(1), list(), opt(), rec(), rec(text("x"), num(5)), arm(1, num(1)), list(rec(text("x"), num(5))), {{Kind: 99}}, {{Kind: api.VList, Kids: -1}}, ways(12), ways(13), queues(14), wide(4096), list(times(4096, no())...)}
}

func TestWrongTypes(t *testing.T) {
	s := read(t, sample)
	for _, of := range wrongTypes {
		for _, v := range values() {
			fits(t, s, of, v, api.ErrType)
		}
		if v, e := leastOf(t, s, of); e != api.ErrType || v != nil {
			t.Errorf("least of %s: %d, %v", short(of), e, v)
		}
	}
}

// broken are declarations by which rules of layer 13 are broken.
var broken = []struct {
	text string
	e    api.Errno
}{
	{"record opt_ { a: int; a: text; }", api.ErrTwice},
	{"record O { account: text; amount: int; }", api.ErrTwice},
	{"service O { }", api.ErrTwice},
	{"record R { a: P; }", api.ErrType},
	{"record R { a: list P; }", api.ErrType},
	{"record R { a: R; }", api.ErrBottom},
	{"choice R { }", api.ErrBottom},
	{"record R { a: R2; } record R2 { a: R; }", api.ErrBottom},
	{"service S { take t(Z) -> int; }", api.ErrEffect},
	{"service S { take t(E) -> int; }", api.ErrEffect},
	{"service S { take t(O) -> int undo u; }", api.ErrUndo},
	{"service S { take t(O) -> int undo u; take u(O) -> none; }", api.ErrUndo},
	{"saga h(E) { do S.t at 0; }", api.ErrSaga},
	{"saga h(O) { do S.t at 0; }", api.ErrStep},
	{"service S { take t(O) -> int; } saga h(O) { do S.t at 4; }", api.ErrStep},
	{"service S { take t(O) -> int; } saga h(O) { do S.t at 0; do S.t at 0; }", api.ErrUndo},
	{"saga h(O) { }", api.ErrMany},
	{"record R { " + strings.Repeat("a: int; ", 17) + "}", api.ErrMany},
	{strings.Repeat("record R { } ", 65), api.ErrMany},
}

// spoilt are schemas that are not right, with the errors that check tells.
func spoilt(t *testing.T) map[api.Errno][]api.Schema {
	const ahead = "module m; record O { account: text; amount: int; } record E { } choice W { a: W; b: int; } "
	l := map[api.Errno][]api.Schema{}
	for _, x := range broken {
		l[x.e] = append(l[x.e], read(t, ahead+x.text))
	}
	s := read(t, ahead)
	s.Name = ""
	l[api.ErrWord] = append(l[api.ErrWord], s, api.Schema{})
	s = read(t, ahead)
	s.Records[1].Name = "none"
	l[api.ErrWord] = append(l[api.ErrWord], s)
	s = read(t, ahead)
	s.Records[0].Fields[0].Type = nil
	l[api.ErrType] = append(l[api.ErrType], s)
	s = read(t, ahead+"service S { take t(O) -> int; }")
	s.Services[0].Methods[0].Result = api.TText
	l[api.ErrType] = append(l[api.ErrType], s)
	return l
}

// Check's error comes ahead of what is wrong with the type, and with the value.
func TestWrongSchemas(t *testing.T) {
	types := append([][]api.Sort{sorts("int"), sorts("O"), sorts("W"), sorts("list E"), typeOf("R")}, wrongTypes...)
	kinds := 0
	for e, l := range spoilt(t) {
		kinds++
		for _, s := range l {
			if _, is := check.Check(s); is != e {
				t.Fatalf("%s: %d, not %d", short(s), is, e)
			}
			for _, of := range types {
				for _, v := range values() {
					fits(t, s, of, v, e)
				}
				if v, is := leastOf(t, s, of); is != e || v != nil {
					t.Errorf("least of %s in %s: %d, %v", short(of), short(s), is, v)
				}
			}
			for _, name := range []string{"O", "E", "W", "R", ""} {
				parted(t, s, name, rec(text("x"), num(5)))
				parted(t, s, name, rec())
				if v, ok := value.Field(s, name, rec(text("x"), num(5)), "account"); ok || v != nil {
					t.Errorf("a field of %s", short(s))
				}
				if account, amount, ok := value.Order(s, name, rec(text("x"), num(5))); ok || account != "" || amount != 0 {
					t.Errorf("an order of %s", short(s))
				}
			}
		}
	}
	if kinds != 9 {
		t.Errorf("%d errors", kinds)
	}
}

func TestDepths(t *testing.T) {
	s := read(t, sample)
	for depth := 2; depth < 40; depth++ {
		e := api.OK
		if depth > 12 {
			e = api.ErrDeep
		}
		fits(t, s, sorts("W"), ways(depth), e)
		if depth%2 == 0 {
			fits(t, s, sorts("Q"), queues(depth), e)
		}
	}
	fits(t, s, sorts("list W"), list(ways(11), ways(11)), api.OK)
	fits(t, s, sorts("list W"), list(ways(2), ways(12), ways(2)), api.ErrDeep)
	fits(t, s, sorts("list W"), list(ways(12), ways(2)), api.ErrDeep)
	fits(t, s, sorts("list W"), list(ways(2), ways(12)), api.ErrDeep)
	fits(t, s, sorts("opt W"), opt(ways(11)), api.OK)
	fits(t, s, sorts("opt W"), opt(ways(12)), api.ErrDeep)
	fits(t, s, sorts("opt Q"), opt(queues(12)), api.ErrDeep)
	fits(t, s, sorts("opt opt Q"), opt(opt(queues(10))), api.OK)
	fits(t, s, sorts("opt opt opt Q"), opt(opt(opt(queues(10)))), api.ErrDeep)
	v := num(1)
	for n := 1; n < 12; n++ {
		v = list(v, v)
		of := append(slices.Repeat(sorts("list int")[:1], n), sorts("int")...)
		if len(v) <= 4096 {
			fits(t, s, of, v, api.OK)
		}
	}
	fits(t, s, append(slices.Repeat(sorts("opt int")[:1], 11), sorts("int")...), row(row(times(11, api.Value{{Kind: api.VOpt, Kids: 1}})...), num(1)), api.OK)
	fits(t, s, append(slices.Repeat(sorts("opt E")[:1], 11), sorts("E")...), row(row(times(11, api.Value{{Kind: api.VOpt, Kids: 1}})...), rec()), api.OK)
	fits(t, s, append(slices.Repeat(sorts("opt Q")[:1], 11), sorts("Q")...), row(row(times(11, api.Value{{Kind: api.VOpt, Kids: 1}})...), queues(2)), api.ErrDeep)
	fits(t, s, append(slices.Repeat(sorts("list Q")[:1], 11), sorts("Q")...), row(times(11, api.Value{{Kind: api.VList, Kids: 1}})...), api.ErrValue)
	fits(t, s, append(slices.Repeat(sorts("list Q")[:1], 11), sorts("Q")...), row(row(times(10, api.Value{{Kind: api.VList, Kids: 1}})...), list()), api.OK)
}

func TestSizes(t *testing.T) {
	s := read(t, sample)
	for _, x := range []struct {
		of string
		v  api.Value
		e  api.Errno
	}{
		{"text", wide(4095), api.OK},
		{"text", wide(4096), api.ErrLong},
		{"text", wide(4097), api.ErrLong},
		{"text", wide(1 << 20), api.ErrLong},
		{"opt text", opt(wide(4094)), api.OK},
		{"opt text", opt(wide(4095)), api.ErrLong},
		{"list none", list(times(4095, no())...), api.OK},
		{"list none", list(times(4096, no())...), api.ErrLong},
		{"list none", list(times(4097, no())...), api.ErrLong},
		{"list none", list(times(100000, no())...), api.ErrLong},
		{"list E", list(times(4095, rec())...), api.OK},
		{"list E", list(times(4096, rec())...), api.ErrLong},
		{"list opt none", list(times(2047, opt(no()))...), api.OK},
		{"list opt none", list(times(2048, opt(no()))...), api.ErrLong},
		{"list text", list(times(4095, text(""))...), api.OK},
		{"list text", list(times(2047, text("x"))...), api.OK},
		{"list text", list(times(2048, text("x"))...), api.ErrLong},
		{"list text", list(append(times(2047, text("x")), text(""))...), api.OK},
		{"list text", list(append(times(2047, text("x")), text("x"))...), api.ErrLong},
		{"list text", list(wide(2000), wide(2093)), api.OK},
		{"list text", list(wide(2000), wide(2094)), api.ErrLong},
		{"list text", list(wide(4000), wide(4000)), api.ErrLong},
		{"list text", list(append(times(4095, text("")), text(""))...), api.ErrLong},
		{"O", rec(wide(4093), num(1)), api.OK},
		{"O", rec(wide(4094), num(1)), api.ErrLong},
		{"O", rec(wide(4093), num(math.MaxInt64)), api.OK},
		{"C", arm(4, wide(4094)), api.OK},
		{"C", arm(4, wide(4095)), api.ErrLong},
		{"X", rec(opt(list(arm(1, num(2)))), arm(4, wide(4000)), num(8), rec(wide(60), num(9)), wide(24)), api.OK},
		{"X", rec(opt(list(arm(1, num(2)))), arm(4, wide(4000)), num(8), rec(wide(60), num(9)), wide(25)), api.ErrLong},
	} {
		fits(t, s, sorts(x.of), x.v, x.e)
	}
}

// ErrValue comes ahead of ErrDeep, and both ahead of ErrLong, wherever they are.
func TestFirstError(t *testing.T) {
	s := read(t, sample)
	long, wrong := arm(4, wide(4096)), arm(5, text(""))
	deep := func(end api.Value) api.Value {
		for range 6 {
			end = arm(3, opt(end))
		}
		return end
	}
	end := arm(4, text(""))
	for _, x := range []struct {
		v api.Value
		e api.Errno
	}{
		{list(end, end), api.OK},
		{list(end, long), api.ErrLong},
		{list(deep(end), end), api.ErrDeep},
		{list(wrong, end), api.ErrValue},
		{list(long, deep(end)), api.ErrDeep},
		{list(deep(end), long), api.ErrDeep},
		{list(deep(long), end), api.ErrDeep},
		{list(long, wrong), api.ErrValue},
		{list(wrong, long), api.ErrValue},
		{list(deep(end), wrong), api.ErrValue},
		{list(wrong, deep(end)), api.ErrValue},
		{list(deep(wrong), end), api.ErrValue},
		{list(deep(end), long, wrong), api.ErrValue},
		{list(long, deep(wrong), deep(end)), api.ErrValue},
		{row(list(deep(end), long), no()), api.ErrValue},
		{row(list(long), end), api.ErrValue},
		{row(list(deep(end)), end), api.ErrValue},
		{list(append(times(4096, end), wrong)...), api.ErrValue},
		{list(append(times(4096, end), deep(end))...), api.ErrDeep},
		{list(append(times(4096, end), end)...), api.ErrLong},
		{list(long, long)[:4], api.ErrValue},
		{list(deep(end))[:len(deep(end))], api.ErrValue},
		{list(append(times(4096, end), end)...)[:8000], api.ErrValue},
	} {
		fits(t, s, sorts("list C"), x.v, x.e)
	}
}

// R1: whatever is handed in, however much of it, and however deep.
func TestHuge(t *testing.T) {
	s := read(t, sample)
	const depth = 1<<16 - 2
	v := row(row(times(depth, api.Value{{Kind: api.VChoice, Kids: 1}})...), arm(1, num(1)))
	is(t, value.Fits(s, sorts("W"), v), api.ErrDeep)
	is(t, value.Fits(s, sorts("list W"), v), api.ErrValue)
	is(t, value.Fits(s, sorts("W"), v[:len(v)-1]), api.ErrValue)
	is(t, value.Fits(s, sorts("W"), append(v, no()...)), api.ErrValue)
	is(t, value.End(v, 0), len(v))
	is(t, value.End(v, depth), len(v))
	is(t, value.End(v[:len(v)-1], 0), -1)
	v[len(v)-1].Kids = 1
	is(t, value.End(v, 0), -1)
	is(t, value.Fits(s, sorts("W"), v), api.ErrValue)
	v = row(row(times(depth/2, row(api.Value{{Kind: api.VRecord, Kids: 1}}, api.Value{{Kind: api.VList, Kids: 1}}))...), rec(list()))
	is(t, value.Fits(s, sorts("Q"), v), api.ErrDeep)
	_, ok := value.Field(s, "Q", v, "a")
	is(t, ok, false)
	v = list(times(1<<20, num(1))...)
	is(t, value.Fits(s, sorts("list int"), v), api.ErrLong)
	is(t, value.End(v, 0), len(v))
	v[0].Kids = math.MaxInt
	is(t, value.Fits(s, sorts("list int"), v), api.ErrValue)
	is(t, value.End(v, 0), -1)
	is(t, value.Fits(s, sorts("text"), wide(1<<24)), api.ErrLong)
	is(t, value.Fits(s, sorts("int"), wide(1<<24)), api.ErrValue)
	is(t, value.Fits(s, sorts("list none"), row(times(1<<16, api.Value{{Kind: api.VList, Kids: math.MaxInt}})...)), api.ErrValue)
}

func is[T comparable](t *testing.T, got, want T) {
	t.Helper()
	if got != want {
		t.Errorf("%v, not %v", got, want)
	}
}
