package value_test

import (
	"slices"
	"strings"

	"redress/api"
)

// sample is right, and has each thing that values are made of.
const sample = `module m;
record O { account: text; amount: int; }
choice W { a: W; b: int; }
record Q { a: list Q; }
record E { }
record P { next: opt P; way: W; no: none; yes: bool; }
choice C { e: E; p: P; l: list C; o: opt C; t: text; }
record X { list_: opt list W; c: C; amount: int; order: O; account: text; }
service S { take t(O) -> int undo u; give u(O) -> none; note x(X) -> int; }
saga g(X) { do S.x at 0; }`

// All values, made of their parts.

func no() api.Value                { return api.Value{{Kind: api.VNone}} }
func flag(n int64) api.Value       { return api.Value{{Kind: api.VBool, Int: n}} }
func num(n int64) api.Value        { return api.Value{{Kind: api.VInt, Int: n}} }
func text(s string) api.Value      { return api.Value{{Kind: api.VText, Text: s}} }
func wide(n int) api.Value         { return text(strings.Repeat("w", n)) }
func row(l ...api.Value) api.Value { return slices.Concat(l...) }

func list(l ...api.Value) api.Value {
	return row(api.Value{{Kind: api.VList, Kids: len(l)}}, row(l...))
}

func opt(l ...api.Value) api.Value {
	return row(api.Value{{Kind: api.VOpt, Kids: len(l)}}, row(l...))
}

func rec(l ...api.Value) api.Value {
	return row(api.Value{{Kind: api.VRecord, Kids: len(l)}}, row(l...))
}

func arm(n int64, v api.Value) api.Value {
	return row(api.Value{{Kind: api.VChoice, Int: n, Kids: 1}}, v)
}

// times is a value so many times.
func times(n int, v api.Value) []api.Value { return slices.Repeat([]api.Value{v}, n) }

// ways is a W so deep.
func ways(depth int) api.Value {
	v := arm(1, num(7))
	for range depth - 2 {
		v = arm(0, v)
	}
	return v
}

// queues is a Q so deep, an even number: records and lists take turns.
func queues(depth int) api.Value {
	v := list()
	for len(v) < depth-1 {
		v = list(rec(v))
	}
	return rec(v)
}
