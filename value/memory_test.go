package value_test

import (
	"cmp"
	"reflect"
	"slices"
	"testing"
	"unsafe"

	"redress/api"
	"redress/value"
)

// spared is a list in memory of its own, with room to spare, in which something stands.
func spared[T any](of []T, spare ...T) []T {
	return slices.Concat(of, spare)[:len(of)]
}

// lent is what is handed in: its texts stand in memory that can be changed, its lists have room to spare.
type lent struct {
	s      api.Schema
	of     []api.Sort
	v      api.Value
	memory [][]byte
}

func (l *lent) text(s string) string {
	b := append([]byte(s), "spare"...)
	l.memory = append(l.memory, b)
	return unsafe.String(&b[0], len(s))
}

func (l *lent) sorts(t []api.Sort) []api.Sort {
	t = spared(t, api.Sort{Kind: 99, Name: "spare"})
	for i := range t {
		t[i].Name = l.text(t[i].Name)
	}
	return t
}

func (l *lent) schema(s api.Schema) api.Schema {
	s.Records = spared(s.Records, api.Record{Name: "spare"})
	for i := range s.Records {
		d := &s.Records[i]
		d.Name = l.text(d.Name)
		d.Fields = spared(d.Fields, api.Field{Name: "spare"})
		for j, f := range d.Fields {
			d.Fields[j] = api.Field{Name: l.text(f.Name), Type: l.sorts(f.Type)}
		}
	}
	s.Services = spared(s.Services, api.Service{Name: "spare"})
	s.Sagas = spared(s.Sagas, api.Saga{Name: "spare"})
	return s
}

func lend(s api.Schema, of []api.Sort, v api.Value) *lent {
	l := &lent{}
	l.s, l.of, l.v = l.schema(s), l.sorts(of), spared(v, api.Node{Kind: 99, Int: 99, Text: "spare", Kids: 99}, api.Node{Kids: 98})
	for i := range l.v {
		l.v[i].Text = l.text(l.v[i].Text)
	}
	return l
}

// looks is all that is to be seen of what was lent, its spare room too.
func (l *lent) looks() []any {
	var all []any
	see(reflect.ValueOf(l.s), &all)
	see(reflect.ValueOf(l.of), &all)
	see(reflect.ValueOf(l.v), &all)
	for _, b := range l.memory {
		all = append(all, string(b))
	}
	return all
}

func see(x reflect.Value, all *[]any) {
	switch x.Kind() {
	case reflect.Slice:
		*all = append(*all, x.Len())
		x = x.Slice(0, x.Cap())
		for i := range x.Len() {
			see(x.Index(i), all)
		}
	case reflect.Struct:
		for i := range x.NumField() {
			see(x.Field(i), all)
		}
	case reflect.String:
		*all = append(*all, string([]byte(x.String())))
	default:
		*all = append(*all, x.Interface())
	}
}

// takeBack changes all that was lent.
func (l *lent) takeBack() {
	clear(l.v[:cap(l.v)])
	clear(l.of[:cap(l.of)])
	for _, d := range l.s.Records {
		for _, f := range d.Fields {
			clear(f.Type[:cap(f.Type)])
		}
		clear(d.Fields[:cap(d.Fields)])
	}
	clear(l.s.Records[:cap(l.s.Records)])
	for _, b := range l.memory {
		for i := range b {
			b[i] = '?'
		}
	}
}

// pieces are where things stand in memory.
type pieces []struct{ begin, end uintptr }

func (l *pieces) add(p unsafe.Pointer, size uintptr) {
	if size > 0 {
		*l = append(*l, struct{ begin, end uintptr }{uintptr(p), uintptr(p) + size})
	}
}

func (l *pieces) text(s string) { l.add(unsafe.Pointer(unsafe.StringData(s)), uintptr(len(s))) }

// value adds a value's list, its spare room too, and its texts.
func (l *pieces) value(v api.Value) {
	l.add(unsafe.Pointer(unsafe.SliceData(v)), uintptr(cap(v))*unsafe.Sizeof(api.Node{}))
	for _, n := range v {
		l.text(n.Text)
	}
}

// apart says where two of them share memory.
func (l pieces) apart(t *testing.T) {
	t.Helper()
	slices.SortFunc(l, func(a, b struct{ begin, end uintptr }) int { return cmp.Compare(a.begin, b.begin) })
	for i := 1; i < len(l); i++ {
		if l[i].begin < l[i-1].end {
			t.Fatal("two of them share memory")
		}
	}
}

// lending is what was handed in, with what is so as well.
type lending struct {
	*lent
	s  api.Schema
	of []api.Sort
	v  api.Value
}

func lendings(t *testing.T) []lending {
	var all []lending
	s := read(t, sample)
	add := func(s api.Schema, of []api.Sort, v api.Value) {
		all = append(all, lending{lend(s, of, v), s, of, v})
	}
	for _, x := range fitting {
		add(s, sorts(x.of), x.v)
	}
	for _, v := range values() {
		for _, of := range []string{"O", "W", "list O", "Q", "none", "list none", "text"} {
			add(s, sorts(of), v)
		}
	}
	for _, of := range wrongTypes {
		if len(of) < 100 {
			add(s, of, ways(4))
		}
	}
	for _, l := range spoilt(t) {
		for _, s := range l {
			add(s, sorts("O"), rec(text("x"), num(5)))
		}
	}
	return all
}

// R4: whatever is asked, what is handed in stays as it is, its spare room too.
func TestNothingIsChanged(t *testing.T) {
	for _, x := range lendings(t) {
		looked := x.looks()
		asked(t, x.lent.s, x.lent.of, x.lent.v)
		leastOf(t, x.lent.s, x.lent.of)
		ends(t, x.lent.v)
		name := "O"
		if len(x.of) > 0 {
			name = x.of[0].Name
		}
		parted(t, x.lent.s, name, x.lent.v)
		if !reflect.DeepEqual(x.looks(), looked) {
			t.Fatalf("%s, %s are %s, %s now", short(x.of), short(x.v), short(x.lent.of), short(x.lent.v))
		}
	}
}

// R4: what is told shares no memory with anything, and stands when all is taken back.
func TestTellsNewMemory(t *testing.T) {
	fields, accounts := 0, 0
	for _, x := range lendings(t) {
		if len(x.of) == 0 {
			continue
		}
		var p pieces
		p.value(x.lent.v)
		name := x.of[0].Name
		var got, want []api.Value
		for range 2 {
			for _, f := range recordOf(x.s, name).Fields {
				v, ok := value.Field(x.lent.s, name, x.lent.v, f.Name)
				if ok {
					worded, _ := fieldByWords(x.s, name, x.v, f.Name)
					got, want = append(got, v), append(want, worded)
					fields++
				}
				p.value(v)
			}
			v, _ := value.Least(x.lent.s, x.lent.of)
			worded, _ := leastByWords(x.s, x.of)
			got, want = append(got, v), append(want, worded)
			p.value(v)
		}
		account, _, _ := value.Order(x.lent.s, name, x.lent.v)
		again, _, _ := value.Order(x.lent.s, name, x.lent.v)
		p.text(account)
		p.text(again)
		if account != "" {
			accounts++
		}
		p.apart(t)
		x.takeBack()
		if worded := orderByWords(x.s, name, x.v); account != worded.account || again != worded.account {
			t.Errorf("%q, %q, when all is taken back", account, again)
		}
		for i, v := range got {
			if !slices.Equal(v, want[i]) {
				t.Errorf("%s is %s, when all is taken back", short(want[i]), short(v))
			}
			clear(v[:cap(v)])
		}
	}
	if fields < 20 || accounts < 3 {
		t.Errorf("%d fields, %d accounts", fields, accounts)
	}
}

// R3: what is told hangs on nothing that was asked, or told, ahead.
func TestAnswersTheSameAgain(t *testing.T) {
	s := read(t, sample)
	other := read(t, "module m; choice O { a: text; } record W { a: int; } record X { account: text; amount: int; }")
	for _, x := range fitting {
		for range 2 {
			fits(t, s, sorts(x.of), x.v, api.OK)
			v, _ := leastOf(t, s, sorts(x.of))
			asked(t, other, sorts(x.of), x.v)
			leastOf(t, other, sorts(x.of))
			parted(t, other, x.of, x.v)
			clear(v)
		}
	}
}

// R5: lists without parts are the same, nil or not.
func TestNoListsOrEmptyOnes(t *testing.T) {
	bare := api.Schema{Name: "m", Records: []api.Record{{Name: "E"}}}
	full := api.Schema{Name: "m", Records: []api.Record{{Name: "E", Fields: []api.Field{}}}, Services: []api.Service{}, Sagas: []api.Saga{}}
	for _, s := range []api.Schema{bare, full} {
		fits(t, s, sorts("E"), rec(), api.OK)
		fits(t, s, sorts("E"), nil, api.ErrValue)
		fits(t, s, sorts("E"), api.Value{}, api.ErrValue)
		fits(t, s, nil, nil, api.ErrType)
		fits(t, s, []api.Sort{}, api.Value{}, api.ErrType)
		leastIs(t, s, "E", rec())
		has(t, s, "E", rec(), "", nil, false)
		is(t, value.End(nil, 0), -1)
		is(t, value.End(api.Value{}, 0), -1)
	}
}
