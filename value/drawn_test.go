package value_test

import (
	"math/rand/v2"
	"slices"
	"strconv"
	"strings"
	"testing"

	"redress/api"
	"redress/check"
	"redress/value"
)

func pick[T any](r *rand.Rand, l []T) T { return l[r.IntN(len(l))] }

// drawnType ends in a plain sort, or in one of these names.
func drawnType(r *rand.Rand, names []string) []api.Sort {
	var t []api.Sort
	for range max(0, r.IntN(6)-3) {
		t = append(t, api.Sort{Kind: pick(r, []byte{api.TList, api.TOpt})})
	}
	if len(names) > 0 && r.IntN(2) == 0 {
		return append(t, api.Sort{Kind: api.TNamed, Name: pick(r, names)})
	}
	return append(t, api.Sort{Kind: pick(r, []byte{api.TNone, api.TBool, api.TInt, api.TText})})
}

// drawnSchema is one of records and choices that is right.
func drawnSchema(r *rand.Rand) (s api.Schema, names []string) {
	for {
		s, names = api.Schema{Name: "m"}, nil
		for i := range 1 + r.IntN(6) {
			names = append(names, "R"+strconv.Itoa(i))
		}
		for _, name := range names {
			d := api.Record{Name: name, Choice: r.IntN(2) == 0}
			for i := range r.IntN(4) {
				d.Fields = append(d.Fields, api.Field{Name: "f" + strconv.Itoa(i), Type: drawnType(r, names)})
			}
			if r.IntN(2) == 0 {
				d.Fields = append(d.Fields, api.Field{Name: "account", Type: sorts(pick(r, []string{"text", "text", "text", "opt text", "int"}))}, api.Field{Name: "amount", Type: sorts(pick(r, []string{"int", "int", "int", "list int", "text"}))})
				r.Shuffle(len(d.Fields), func(a, b int) { d.Fields[a], d.Fields[b] = d.Fields[b], d.Fields[a] })
			}
			s.Records = append(s.Records, d)
		}
		if _, e := check.Check(s); e == api.OK {
			return s, names
		}
	}
}

// drawn draws values of a schema's types, which may be somewhat too deep, or too great.
type drawn struct {
	r    *rand.Rand
	s    api.Schema
	low  lowest
	room int  // for so many parts more, or a few more than that
	much bool // it draws what is likely to be too deep, or too great
}

func (d *drawn) value(t []api.Sort, deep int) api.Value {
	d.room--
	r := d.r
	if deep < 1 || d.room < 0 {
		return d.low.value(t, 5000)
	}
	switch t[0].Kind {
	case api.TNone:
		return no()
	case api.TBool:
		return flag(int64(r.IntN(2)))
	case api.TInt:
		return num(int64(r.Uint64()) >> r.IntN(64))
	case api.TText:
		if d.much && r.IntN(2) == 0 || r.IntN(60) == 0 {
			return wide(r.IntN(4200))
		}
		return text(pick(r, []string{"", "x", "ab", "\x00", "\xff\xfe", "account"}))
	case api.TList, api.TOpt:
		n := r.IntN(4)
		if d.much {
			n = 1 + r.IntN(20)
		}
		if t[0].Kind == api.TOpt {
			n = min(n, 1)
		}
		var l []api.Value
		for range n {
			l = append(l, d.value(t[1:], deep-1))
		}
		if t[0].Kind == api.TOpt {
			return opt(l...)
		}
		return list(l...)
	}
	x := recordOf(d.s, t[0].Name)
	if x.Choice {
		n := r.IntN(len(x.Fields))
		return arm(int64(n), d.value(x.Fields[n].Type, deep-1))
	}
	var l []api.Value
	for _, f := range x.Fields {
		l = append(l, d.value(f.Type, deep-1))
	}
	return rec(l...)
}

// changed is a value with one thing of it changed, which may be right still.
func changed(r *rand.Rand, v api.Value) api.Value {
	v = slices.Clone(v)
	if len(v) == 0 {
		return api.Value{{Kind: byte(r.IntN(10))}}
	}
	i, j := r.IntN(len(v)), r.IntN(len(v))
	switch r.IntN(9) {
	case 0:
		v[i].Kind = byte(r.IntN(10))
	case 1:
		v[i].Int = int64(r.IntN(5)) - 1
	case 2:
		v[i].Kids += r.IntN(3) - 1
	case 3:
		v[i].Text = pick(r, []string{"", "x", "yy"})
	case 4:
		v[i], v[j] = v[j], v[i]
	case 5:
		return slices.Delete(v, i, i+1)
	case 6:
		return slices.Insert(v, i, v[j])
	case 7:
		return v[:i]
	case 8:
		v[i].Kids = int(r.Uint64()) >> r.IntN(64)
	}
	return v
}

// whatFollows says where something that is promised of each value that fits is not so.
func whatFollows(t *testing.T, s api.Schema, of []api.Sort, v api.Value, more api.Node) {
	t.Helper()
	if end := value.End(v, 0); end != len(v) {
		t.Fatalf("%s of %s ends at %d", short(v), short(of), end)
	}
	fits(t, s, of, v[:len(v)-1], api.ErrValue)
	fits(t, s, of, append(v[:len(v):len(v)], more), api.ErrValue)
	x, _, _ := grow(v)
	least, _, _ := grow(first(leastOf(t, s, of)))
	if least.depth() > x.depth() {
		t.Fatalf("%s of %s is less deep than the least one", short(v), short(of))
	}
	e := api.OK
	switch {
	case len(of) == 12:
		e = api.ErrType
	case x.depth() == 12:
		e = api.ErrDeep
	case x.size() == 4096:
		e = api.ErrLong
	}
	fits(t, s, append(sorts("list none")[:1:1], of...), list(v), e)
	fits(t, s, append(sorts("opt none")[:1:1], of...), opt(v), e)
}

func first(v api.Value, _ api.Errno) api.Value { return v }

func TestWhatFollows(t *testing.T) {
	s := read(t, sample)
	for _, x := range fitting {
		whatFollows(t, s, sorts(x.of), x.v, api.Node{Kind: api.VNone})
		whatFollows(t, s, sorts(x.of), x.v, x.v[len(x.v)-1])
	}
	whatFollows(t, s, sorts("W"), ways(11), api.Node{})
	whatFollows(t, s, sorts("W"), ways(12), api.Node{})
	whatFollows(t, s, sorts("Q"), queues(12), api.Node{Kind: api.VList})
	whatFollows(t, s, sorts("text"), wide(4094), api.Node{Kind: api.VText})
	whatFollows(t, s, sorts("text"), wide(4095), api.Node{Kind: api.VText})
	whatFollows(t, s, sorts("list none"), list(times(4094, no())...), api.Node{Kind: api.VNone})
	whatFollows(t, s, sorts("list none"), list(times(4095, no())...), api.Node{Kind: api.VNone})
	whatFollows(t, s, sorts("O"), rec(wide(4093), num(1)), api.Node{Kind: api.VInt})
	for n := 1; n < 12; n++ {
		whatFollows(t, s, append(slices.Repeat(sorts("opt O")[:1], n), sorts("O")...), opt(), api.Node{Kind: api.VOpt})
	}
}

// Values drawn at random, and changed, of types drawn at random, against the chapter's words.
func TestDrawn(t *testing.T) {
	r := rand.New(rand.NewPCG(15, 2))
	told := map[api.Errno]int{}
	records, orders := 0, 0
	for range 1200 {
		s, names := drawnSchema(r)
		low := lowest{s, map[string]map[int]bool{}}
		for range 6 {
			of := drawnType(r, names)
			if r.IntN(2) == 0 {
				of = typeOf(pick(r, names))
			}
			d := drawn{r, s, low, pick(r, []int{20, 20, 20, 100, 6000}), r.IntN(3) == 0}
			v := d.value(of, 1+r.IntN(20))
			for range 8 {
				e := asked(t, s, of, v)
				told[e]++
				if len(v) < 200 {
					ends(t, v)
				}
				if e == api.OK {
					whatFollows(t, s, of, v, api.Node{Kind: byte(r.IntN(9))})
				}
				name := pick(r, names)
				if of[0].Kind == api.TNamed {
					name = of[0].Name
					records++
				}
				parted(t, s, name, v, "f0")
				if _, _, ok := value.Order(s, name, v); ok {
					orders++
				}
				v = changed(r, v)
			}
		}
	}
	for e, want := range map[api.Errno]int{api.OK: 8000, api.ErrValue: 25000, api.ErrDeep: 100, api.ErrLong: 100} {
		if told[e] < want {
			t.Errorf("error %d: %d times", e, told[e])
		}
	}
	if records < 30000 || orders < 400 {
		t.Errorf("%d records, %d orders", records, orders)
	}
}

// What a value of one type says is held against types and schemas drawn anew.
func TestDrawnOthers(t *testing.T) {
	r := rand.New(rand.NewPCG(15, 3))
	for range 2000 {
		s, names := drawnSchema(r)
		d := drawn{r, s, lowest{s, map[string]map[int]bool{}}, 30, false}
		v := d.value(drawnType(r, names), 8)
		for range 5 {
			asked(t, s, drawnType(r, names), v)
			parted(t, s, pick(r, names), v)
		}
		other, otherNames := drawnSchema(r)
		asked(t, other, drawnType(r, otherNames), v)
		asked(t, other, drawnType(r, append(names, "R9")), v)
		leastOf(t, other, drawnType(r, otherNames))
		i := r.IntN(len(s.Records))
		s.Records[i].Name = pick(r, []string{"R9", "", "list", strings.Repeat("R", 33)})
		asked(t, s, drawnType(r, names), v)
		leastOf(t, s, drawnType(r, names))
	}
}

// Parts of anything, of types of anything, in schemas of anything.
func TestDrawnAnything(t *testing.T) {
	r := rand.New(rand.NewPCG(15, 4))
	s := read(t, sample)
	names := []string{"", "O", "W", "Q", "E", "P", "C", "X", "Z", "S"}
	for range 30000 {
		of := make([]api.Sort, r.IntN(4))
		for i := range of {
			of[i] = api.Sort{Kind: byte(r.IntN(9))}
			if of[i].Kind == api.TNamed || r.IntN(10) == 0 {
				of[i].Name = pick(r, names)
			}
		}
		v := make(api.Value, r.IntN(5))
		for i := range v {
			v[i].Kind = byte(r.IntN(10))
			if r.IntN(2) == 0 {
				v[i].Int = int64(r.Uint64()) >> r.IntN(64)
			}
			if r.IntN(2) == 0 {
				v[i].Kids = int(r.Uint64()) >> (58 + r.IntN(6))
			}
			if v[i].Kind == api.VText || r.IntN(10) == 0 {
				v[i].Text = pick(r, []string{"", "x"})
			}
		}
		asked(t, s, of, v)
		ends(t, v)
		leastOf(t, s, of)
		parted(t, s, pick(r, names), v)
	}
}
