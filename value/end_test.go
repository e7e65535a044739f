package value_test

import (
	"math"
	"math/rand/v2"
	"testing"

	"redress/api"
	"redress/value"
)

// kids is a row of parts that have so many parts each, and nothing else.
func kids(l ...int) api.Value {
	var v api.Value
	for _, n := range l {
		v = append(v, api.Node{Kids: n})
	}
	return v
}

func TestEnd(t *testing.T) {
	for _, x := range []struct {
		v        api.Value
		at, want int
	}{
		{nil, 0, -1}, {nil, -1, -1}, {nil, 1, -1}, {kids(), 0, -1},
		{kids(0), 0, 1}, {kids(0), 1, -1}, {kids(0), 2, -1}, {kids(0), -1, -1}, {kids(0), math.MinInt, -1}, {kids(0), math.MaxInt, -1},
		{kids(0, 0), 0, 1}, {kids(0, 0), 1, 2}, {kids(0, 0), 2, -1},
		{kids(1, 0), 0, 2}, {kids(1, 0), 1, 2}, {kids(1), 0, -1}, {kids(2, 0), 0, -1}, {kids(2, 0, 0), 0, 3}, {kids(2, 0, 0, 0), 0, 3}, {kids(2, 1, 0), 0, -1}, {kids(2, 1, 0, 0), 0, 4}, {kids(2, 0, 1, 0), 0, 4},
		{kids(3, 0, 2, 0, 0, 1, 0, 0), 0, 7}, {kids(3, 0, 2, 0, 0, 1, 0, 0), 2, 5}, {kids(3, 0, 2, 0, 0, 1, 0, 0), 5, 7}, {kids(3, 0, 2, 0, 0, 1, 0, 0), 7, 8},
		{kids(-1), 0, -1}, {kids(-1, 0), 0, -1}, {kids(1, -1), 0, -1}, {kids(1, -1), 1, -1}, {kids(2, -1, 0), 0, -1}, {kids(2, 0, -1), 0, -1}, {kids(2, 2, -1, 0), 0, -1},
		{kids(0, -1), 0, 1}, {kids(1, 0, -1), 0, 2}, {kids(-1, 0), 1, 2}, {kids(0, 5), 0, 1}, {kids(5, 0), 1, 2},
		{kids(math.MaxInt, 0), 0, -1}, {kids(math.MaxInt, math.MaxInt, math.MaxInt), 0, -1}, {kids(math.MinInt, 0), 0, -1}, {kids(2, math.MaxInt, math.MinInt), 0, -1}, {kids(math.MaxInt), 0, -1}, {kids(0, math.MaxInt), 0, 1}, {kids(2, math.MaxInt, 0, 0), 0, -1},
		{kids(1<<32, 0), 0, -1}, {kids(1<<32+1, 0), 0, -1}, {kids(1<<63-1, 1<<63-1, 0, 0), 0, -1},
	} {
		if got := value.End(x.v, x.at); got != x.want {
			t.Errorf("behind %d in %s: %d, not %d", x.at, short(x.v), got, x.want)
		}
		ends(t, x.v)
	}
}

// A part ends where it does whatever it is, and whatever else is told of it.
func TestEndOfAnyParts(t *testing.T) {
	v := api.Value{{Kind: 99, Int: -7, Text: "x", Kids: 2}, {Kind: api.VInt, Kids: 1}, {Kind: api.VText}, {Kind: api.VChoice}, {Kind: api.VOpt, Kids: 3}}
	for at, want := range []int{4, 3, 3, 4, -1, -1} {
		is(t, value.End(v, at), want)
	}
	ends(t, v)
}

// All rows of up to six parts of these.
func TestEndOfShortRows(t *testing.T) {
	whole := 0
	for n := range 7 {
		rows(kids(-1, 0, 1, 2, 3), n, func(v api.Value) {
			ends(t, v)
			if value.End(v, 0) == len(v) {
				whole++
			}
		})
	}
	if whole != 1+1+2+5+13+36 {
		t.Errorf("%d of them are a whole", whole)
	}
}

func TestEndOfDrawnRows(t *testing.T) {
	r := rand.New(rand.NewPCG(15, 1))
	for range 20000 {
		v := make(api.Value, r.IntN(40))
		for i := range v {
			v[i] = api.Node{Kind: byte(r.IntN(10)), Kids: r.IntN(3)}
			if r.IntN(30) == 0 {
				v[i].Kids = r.IntN(50) - 5
			}
			if r.IntN(200) == 0 {
				v[i].Kids = int(r.Uint64())
			}
		}
		ends(t, v)
	}
}

// Each part of a value that fits ends within it, and the first one with it.
func TestEndOfFitting(t *testing.T) {
	for _, x := range fitting {
		ends(t, x.v)
		is(t, value.End(x.v, 0), len(x.v))
		is(t, value.End(append(x.v[:len(x.v):len(x.v)], no()...), 0), len(x.v))
		for n := range len(x.v) {
			is(t, value.End(x.v[:n], 0), -1)
		}
	}
}
