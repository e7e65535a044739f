package value_test

import (
	"slices"
	"strconv"
	"strings"
	"testing"

	"redress/api"
	"redress/value"
)

func TestLeast(t *testing.T) {
	s := read(t, sample)
	way := arm(1, num(0))
	for _, x := range []struct {
		of   string
		want api.Value
	}{
		{"none", no()}, {"bool", flag(0)}, {"int", num(0)}, {"text", text("")},
		{"list int", list()}, {"opt int", opt()}, {"list list W", list()}, {"opt opt W", opt()}, {"opt list O", opt()}, {"list opt O", list()},
		{"O", rec(text(""), num(0))}, {"W", way}, {"Q", rec(list())}, {"E", rec()}, {"P", rec(opt(), way, no(), flag(0))},
		{"C", arm(0, rec())}, {"X", rec(opt(), arm(0, rec()), num(0), rec(text(""), num(0)), text(""))},
	} {
		if v, e := leastOf(t, s, sorts(x.of)); e != api.OK || !slices.Equal(v, x.want) {
			t.Errorf("%s: %d, %s", x.of, e, short(v))
		}
	}
	of := append(slices.Repeat(sorts("list O")[:1], 11), sorts("O")...)
	if v, e := leastOf(t, s, of); e != api.OK || !slices.Equal(v, list()) {
		t.Errorf("%d, %s", e, short(v))
	}
}

// The first arm of those that have the least depth, of each choice within, too.
func TestLeastArms(t *testing.T) {
	for _, x := range []struct {
		declared string
		want     api.Value
	}{
		{"choice R { a: int; b: none; }", arm(0, num(0))},
		{"choice R { a: R; b: R; c: text; d: R; e: none; }", arm(2, text(""))},
		{"choice R { a: R; b: list R; c: int; }", arm(1, list())},
		{"choice R { a: R; b: opt R; c: int; }", arm(1, opt())},
		{"choice R { a: A; b: B; c: int; } record A { a: int; } record B { }", arm(1, rec())},
		{"choice R { a: A; b: B; } record A { a: int; } record B { b: text; }", arm(0, rec(num(0)))},
		{"choice R { a: A; b: B; } record B { b: text; } record A { a: int; }", arm(0, rec(num(0)))},
		{"choice R { a: A; b: B; } record A { a: B; } record B { b: text; }", arm(1, rec(text("")))},
		{"choice R { a: A; b: B; c: C; } record A { a: C; } record B { b: C; } record C { c: D; } record D { }", arm(2, rec(rec()))},
		{"choice R { a: A; b: B; } choice A { a: R; b: B; } choice B { a: A; b: R; c: int; }", arm(1, arm(2, num(0)))},
		{"choice R { a: A; } choice A { a: B; b: R; } choice B { a: A; b: R; c: C; } record C { }", arm(0, arm(0, arm(2, rec())))},
		{"record R { a: D; b: W; } record D { a: C; } record C { a: B; } record B { a: int; } choice W { a: B; b: int; }", rec(rec(rec(rec(num(0)))), arm(1, num(0)))},
		{"record R { b: W; a: D; } record D { a: C; } record C { a: B; } record B { a: int; } choice W { a: B; b: C; c: opt D; d: int; }", rec(arm(2, opt()), rec(rec(rec(num(0)))))},
		{"choice R { a: W; b: V; } choice W { a: V; b: U; } choice V { a: W; b: U; } record U { a: int; b: bool; }", arm(0, arm(1, rec(num(0), flag(0))))},
		{"choice R { a: L; b: M; } record L { a: list M; b: opt M; } record M { a: L; b: R; }", arm(0, rec(list(), opt()))},
		{"record R { a: W; b: W; c: list W; } choice W { a: R; b: R2; } record R2 { a: text; b: none; c: bool; }", rec(arm(1, rec(text(""), no(), flag(0))), arm(1, rec(text(""), no(), flag(0))), list())},
	} {
		s := read(t, "module m; "+x.declared)
		for range len(s.Records) {
			if v, e := leastOf(t, s, sorts("R")); e != api.OK || !slices.Equal(v, x.want) {
				t.Errorf("%s: %d, %s", x.declared, e, short(v))
			}
			s.Records = append(s.Records[1:len(s.Records):len(s.Records)], s.Records[0])
		}
		slices.Reverse(s.Records)
		if v, e := leastOf(t, s, sorts("R")); e != api.OK || !slices.Equal(v, x.want) {
			t.Errorf("%s, turned about: %d, %s", x.declared, e, short(v))
		}
	}
}

// chain declares R1 to Rn, which end in what end declares as R0: each is one deeper than the one ahead.
func chain(n int, end, one string) string {
	l := []string{"module m; " + end}
	for i := range n {
		l = append(l, strings.NewReplacer("THIS", "R"+strconv.Itoa(i+1), "THAT", "R"+strconv.Itoa(i)).Replace(one))
	}
	return strings.Join(l, " ")
}

// deepest asks for the least values of a chain whose R0 is so deep.
func deepest(t *testing.T, text string, n, depth int) {
	t.Helper()
	s := read(t, text)
	for range 2 {
		for i := range n + 1 {
			e := api.OK
			if depth+i > 12 {
				e = api.ErrDeep
			}
			of := sorts("R" + strconv.Itoa(i))
			v, is := leastOf(t, s, of)
			if is != e || e != api.OK && v != nil {
				t.Errorf("%s: %d, %s", short(of), is, short(v))
			}
			if x, _, _ := grow(v); e == api.OK && x.depth() != depth+i {
				t.Errorf("%s: %s", short(of), short(v))
			}
			leastIs(t, s, "list R"+strconv.Itoa(i), list())
			leastIs(t, s, "opt R"+strconv.Itoa(i), opt())
		}
		slices.Reverse(s.Records)
	}
}

func leastIs(t *testing.T, s api.Schema, of string, want api.Value) {
	t.Helper()
	if v, e := leastOf(t, s, sorts(of)); e != api.OK || !slices.Equal(v, want) {
		t.Errorf("%s: %d, %s", of, e, short(v))
	}
}

func TestLeastDepths(t *testing.T) {
	deepest(t, chain(63, "record R0 { }", "record THIS { a: THAT; }"), 63, 1)
	deepest(t, chain(20, "record R0 { a: int; }", "record THIS { a: THAT; b: int; }"), 20, 2)
	deepest(t, chain(20, "record R0 { a: list R20; b: opt R19; }", "record THIS { b: text; a: THAT; }"), 20, 2)
	deepest(t, chain(63, "choice R0 { a: int; }", "choice THIS { a: THAT; }"), 63, 2)
	deepest(t, chain(20, "choice R0 { a: R20; b: none; }", "choice THIS { a: THAT; b: R20; }"), 20, 2)
	deepest(t, chain(20, "choice R0 { a: R1; b: R20; c: bool; }", "record THIS { a: THAT; }"), 20, 2)
	deepest(t, chain(20, "choice R0 { a: R1; b: R20; c: bool; }", "choice THIS { z: R20; a: THAT; }"), 20, 2)
}

// Of a choice whose arms are all too deep there is no value that is not.
func TestLeastTooDeep(t *testing.T) {
	const ahead = "record R0 { } choice W { a: R13; b: R12; c: R14; } choice V { a: R13; b: R10; c: R14; } record U { a: list W; b: R10; } record T { a: int; b: R11; c: R12; }"
	s := read(t, chain(14, ahead, "record THIS { a: THAT; }"))
	for of, e := range map[string]api.Errno{"W": api.ErrDeep, "V": api.OK, "U": api.OK, "T": api.ErrDeep, "list W": api.OK, "opt T": api.OK, "R11": api.OK, "R12": api.ErrDeep} {
		if _, is := leastOf(t, s, sorts(of)); is != e {
			t.Errorf("%s: %d", of, is)
		}
	}
}

// fields declare so many fields of a type.
func fields(n, from int, of string) string {
	var b strings.Builder
	for i := range n {
		b.WriteString("f" + strconv.Itoa(from+i) + ": " + of + "; ")
	}
	return b.String()
}

func TestLeastParts(t *testing.T) {
	ahead := "module m; record C { " + fields(16, 0, "int") + "} record B { " + fields(16, 0, "C") + "} record B2 { " + fields(15, 0, "C") + "} "
	for _, x := range []struct {
		declared string
		parts    int
		e        api.Errno
	}{
		{"record A { " + fields(15, 0, "B") + "}", 4096, api.OK},
		{"record A { " + fields(15, 0, "B") + "z: none; }", 0, api.ErrLong},
		{"record A { z: list B; " + fields(15, 0, "B") + "}", 0, api.ErrLong},
		{"record A { " + fields(14, 0, "B") + "z: B2; }", 4079, api.OK},
		{"record A { " + fields(16, 0, "B") + "}", 0, api.ErrLong},
		{"choice A { a: Z; } record Z { " + fields(15, 0, "B") + "}", 0, api.ErrLong},
		{"choice A { a: Z; } record Z { " + fields(14, 0, "B") + "z: B2; y: C; }", 4097, api.ErrLong},
		{"choice A { a: Z; } record Z { " + fields(14, 0, "B") + "z: B2; y: D; } record D { " + fields(15, 0, "none") + "}", 4096, api.OK},
		{"choice A { b: Y; a: Z; } record Z { " + fields(16, 0, "B") + "} record Y { a: Z; }", 0, api.ErrLong},
		{"choice A { b: Y; a: Z; c: int; } record Z { " + fields(16, 0, "B") + "} record Y { a: Z; }", 2, api.OK},
		{"record A { a: list Z; } record Z { " + fields(16, 0, "B") + "}", 2, api.OK},
	} {
		s := read(t, ahead+x.declared)
		v, e := leastOf(t, s, sorts("A"))
		if e != x.e || e == api.OK && len(v) != x.parts || e != api.OK && v != nil {
			t.Errorf("%s: %d, %d parts", x.declared, e, len(v))
		}
	}
}

// What has more parts than could ever be put down is told soon; what is too deep as well is too deep.
func TestLeastFarTooLong(t *testing.T) {
	text := chain(14, "record R0 { "+fields(16, 0, "int")+"}", "record THIS { "+fields(16, 0, "THAT")+"}")
	s := read(t, text)
	for i := range 15 {
		e := api.OK
		if i > 1 {
			e = api.ErrLong
		}
		if i > 10 {
			e = api.ErrDeep
		}
		if v, is := value.Least(s, sorts("R"+strconv.Itoa(i))); is != e || e != api.OK && v != nil {
			t.Errorf("R%d: %d, %d parts", i, is, len(v))
		}
	}
}
