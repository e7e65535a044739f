package value_test

import (
	"math"
	"slices"
	"strings"
	"testing"

	"redress/api"
	"redress/value"
)

// has says where Field answers something else.
func has(t *testing.T, s api.Schema, record string, v api.Value, field string, want api.Value, ok bool) {
	t.Helper()
	got, is := value.Field(s, record, v, field)
	if is != ok || !slices.Equal(got, want) || !ok && got != nil {
		t.Errorf("%s of %s in %s: %t, %s", field, record, short(v), is, short(got))
	}
	parted(t, s, record, v, field)
}

// orders says where Order answers something else.
func orders(t *testing.T, s api.Schema, record string, v api.Value, want ordered) {
	t.Helper()
	var got ordered
	if got.account, got.amount, got.ok = value.Order(s, record, v); got != want {
		t.Errorf("%s of %s: %v, not %v", record, short(v), got, want)
	}
	parted(t, s, record, v)
}

func TestField(t *testing.T) {
	s := read(t, sample)
	order := rec(text("x"), num(5))
	has(t, s, "O", order, "account", text("x"), true)
	has(t, s, "O", order, "amount", num(5), true)
	parts := map[string]api.Value{"list_": opt(list(ways(3), ways(2))), "c": arm(2, list(arm(0, rec()), arm(4, text("t")))), "amount": num(-8), "order": rec(text("o"), num(9)), "account": text("")}
	x := rec(parts["list_"], parts["c"], parts["amount"], parts["order"], parts["account"])
	for field, part := range parts {
		has(t, s, "X", x, field, part, true)
	}
	has(t, s, "Q", queues(12), "a", queues(12)[1:], true)
	has(t, s, "P", rec(opt(), ways(11), no(), flag(1)), "way", ways(11), true)
	has(t, s, "P", rec(opt(), ways(11), no(), flag(1)), "no", no(), true)
	has(t, s, "P", rec(opt(), ways(11), no(), flag(1)), "yes", flag(1), true)
	has(t, s, "P", rec(opt(), ways(11), no(), flag(1)), "next", opt(), true)
	for _, field := range []string{"", "Account", "account ", "accoun", "accounts", "O", "x", "a", "b", "text", "0", strings.Repeat("account", 100000)} {
		has(t, s, "O", order, field, nil, false)
		has(t, s, "E", rec(), field, nil, false)
		if field != "a" {
			has(t, s, "Q", queues(2), field, nil, false)
		}
	}
}

// A choice, and what is no record at all, has no fields.
func TestFieldOfNoRecord(t *testing.T) {
	s := read(t, sample)
	has(t, s, "W", arm(1, num(1)), "b", nil, false)
	has(t, s, "W", arm(0, arm(1, num(1))), "a", nil, false)
	has(t, s, "C", arm(0, rec()), "e", nil, false)
	has(t, s, "C", arm(4, text("x")), "t", nil, false)
	for _, name := range []string{"", "o", "O ", "S", "g", "m", "S.t", "t", "int", "none", "list O", "account", strings.Repeat("O", 100000)} {
		for _, v := range []api.Value{rec(text("x"), num(5)), rec(), no(), nil, {}} {
			has(t, s, name, v, "account", nil, false)
			orders(t, s, name, v, ordered{})
		}
	}
	s = read(t, "module m; choice O { account: text; amount: int; }")
	for _, v := range []api.Value{arm(0, text("x")), arm(1, num(1)), rec(text("x"), num(5))} {
		has(t, s, "O", v, "account", nil, false)
		has(t, s, "O", v, "amount", nil, false)
		orders(t, s, "O", v, ordered{})
	}
}

// What doesn't fit has no fields, and is no order: none of its type, too deep, too great.
func TestPartsOfWhatDoesNotFit(t *testing.T) {
	s := read(t, sample)
	for _, v := range []api.Value{
		nil, {}, rec(), rec(text("x")), rec(num(5), text("x")), rec(text("x"), num(5), no()), row(rec(text("x"), num(5)), no()), text("x"), list(text("x"), num(5)), arm(0, text("x")), opt(rec(text("x"), num(5))),
		{{Kind: api.VRecord, Kids: 2, Int: 1}, {Kind: api.VText, Text: "x"}, {Kind: api.VInt, Int: 5}}, {{Kind: api.VRecord, Kids: 2, Text: "x"}, {Kind: api.VText, Text: "x"}, {Kind: api.VInt, Int: 5}},
		{{Kind: api.VRecord, Kids: 2}, {Kind: api.VText, Text: "x", Int: 1}, {Kind: api.VInt, Int: 5}}, {{Kind: api.VRecord, Kids: 2}, {Kind: api.VText, Text: "x"}, {Kind: api.VInt, Int: 5, Text: "x"}}, {{Kind: api.VRecord, Kids: 2}, {Kind: api.VText, Text: "x", Kids: 1}, {Kind: api.VInt, Int: 5}},
		{{Kind: api.VRecord, Kids: math.MaxInt}, {Kind: api.VText}}, {{Kind: api.VRecord, Kids: -1}}, {{Kind: api.VRecord, Kids: 2}}, {{Kind: 77, Kids: 2}, {Kind: api.VText}, {Kind: api.VInt}},
		rec(wide(4094), num(5)), rec(wide(1<<20), num(5)),
	} {
		for _, field := range []string{"account", "amount", "x", ""} {
			has(t, s, "O", v, field, nil, false)
		}
		orders(t, s, "O", v, ordered{})
	}
	x := func(way, account api.Value) api.Value {
		return rec(opt(list(way)), arm(0, rec()), num(8), rec(text("o"), num(9)), account)
	}
	has(t, s, "X", x(ways(9), wide(4070)), "amount", num(8), true)
	orders(t, s, "X", x(ways(9), wide(4070)), ordered{strings.Repeat("w", 4070), 8, true})
	for _, v := range []api.Value{x(ways(10), text("x")), x(ways(9), wide(4090)), x(arm(2, num(1)), text("x"))} {
		for _, field := range []string{"account", "amount", "order", "c", "list_"} {
			has(t, s, "X", v, field, nil, false)
		}
		orders(t, s, "X", v, ordered{})
	}
}

func TestOrder(t *testing.T) {
	s := read(t, sample)
	orders(t, s, "O", rec(text("x"), num(5)), ordered{"x", 5, true})
	orders(t, s, "O", rec(text(""), num(0)), ordered{"", 0, true})
	orders(t, s, "O", rec(text("\x00\xff"), num(math.MinInt64)), ordered{"\x00\xff", math.MinInt64, true})
	orders(t, s, "O", rec(wide(4093), num(math.MaxInt64)), ordered{strings.Repeat("w", 4093), math.MaxInt64, true})
	orders(t, s, "X", rec(opt(), arm(0, rec()), num(8), rec(text("o"), num(9)), text("acc")), ordered{"acc", 8, true})
	for _, x := range []struct {
		name string
		v    api.Value
	}{{"E", rec()}, {"Q", queues(2)}, {"W", ways(2)}, {"C", arm(0, rec())}, {"P", rec(opt(), ways(2), no(), flag(1))}} {
		fits(t, s, typeOf(x.name), x.v, api.OK)
		orders(t, s, x.name, x.v, ordered{})
	}
}

// An order record may have its fields in any order, among others.
func TestOrderRecords(t *testing.T) {
	a, n := text("a"), num(7)
	for _, x := range []struct {
		declared string
		v        api.Value
		is       bool
	}{
		{"record R { account: text; amount: int; }", rec(a, n), true},
		{"record R { amount: int; account: text; }", rec(n, a), true},
		{"record R { a: text; amount: int; b: text; account: text; c: int; }", rec(text("b"), n, text("c"), a, num(8)), true},
		{"record R { l: list text; amount: int; o: opt int; account: text; }", rec(list(text("b"), text("c")), n, opt(num(8)), a), true},
		{"record R { account: text; }", rec(a), false},
		{"record R { amount: int; }", rec(n), false},
		{"record R { account: int; amount: text; }", rec(n, a), false},
		{"record R { account: text; amount: text; }", rec(a, a), false},
		{"record R { account: int; amount: int; }", rec(n, n), false},
		{"record R { account: opt text; amount: int; }", rec(opt(a), n), false},
		{"record R { account: opt text; amount: int; }", rec(opt(), n), false},
		{"record R { account: list text; amount: int; }", rec(list(a), n), false},
		{"record R { account: text; amount: opt int; }", rec(a, opt(n)), false},
		{"record R { account: text; amount: list int; }", rec(a, list(n, n)), false},
		{"record R { account: text; amount: bool; }", rec(a, flag(1)), false},
		{"record R { account: none; amount: int; }", rec(no(), n), false},
		{"record R { account: T; amount: int; } record T { a: text; }", rec(rec(a), n), false},
		{"record R { account: text; amount: T; } choice T { a: int; }", rec(a, arm(0, n)), false},
		{"record R { Account: text; amount: int; }", rec(a, n), false},
		{"record R { account: text; amounts: int; }", rec(a, n), false},
		{"record R { a: O; } record O { account: text; amount: int; }", rec(rec(a, n)), false},
		{"record R { account: O; amount: int; } record O { account: text; amount: int; }", rec(rec(a, n), n), false},
	} {
		s := read(t, "module m; "+x.declared)
		fits(t, s, typeOf("R"), x.v, api.OK)
		want := ordered{}
		if x.is {
			want = ordered{"a", 7, true}
		}
		orders(t, s, "R", x.v, want)
	}
}
