package check

import (
	"cmp"
	"slices"
	"testing"
	"unsafe"

	"redress/api"
)

// lent is a schema whose texts stand in memory that can be changed, and whose lists have room to spare.
type lent struct {
	s      api.Schema
	memory [][]byte
}

func (l *lent) text(s string) string {
	b := append([]byte(s), "spare"...)
	l.memory = append(l.memory, b)
	return unsafe.String(&b[0], len(s))
}

func spared[T any](of []T, spare T) []T {
	return append(of[:len(of):len(of)], spare)[:len(of)]
}

var (
	spareField  = api.Field{Name: "spare", Type: []api.Sort{{Kind: 99, Name: "spare"}}}
	spareRecord = api.Record{Name: "spare", Choice: true, Fields: []api.Field{spareField}}
	spareMethod = api.Method{Name: "spare", Arg: "spare", Result: 99, Effect: "spare", Undo: "spare"}
	spareStep   = api.Step{Service: "spare", Method: "spare", At: 99}
)

func lend(s api.Schema) *lent {
	l := &lent{s: whole(s)}
	for i, r := range l.s.Records {
		for j, f := range r.Fields {
			r.Fields[j].Type = spared(f.Type, api.Sort{Kind: 99, Name: "spare"})
		}
		l.s.Records[i].Fields = spared(r.Fields, spareField)
	}
	for i, v := range l.s.Services {
		l.s.Services[i].Methods = spared(v.Methods, spareMethod)
	}
	for i, g := range l.s.Sagas {
		l.s.Sagas[i].Steps = spared(g.Steps, spareStep)
	}
	l.s.Records = spared(l.s.Records, spareRecord)
	l.s.Services = spared(l.s.Services, api.Service{Name: "spare", Methods: []api.Method{spareMethod}})
	l.s.Sagas = spared(l.s.Sagas, api.Saga{Name: "spare", Arg: "spare", Steps: []api.Step{spareStep}})
	for _, p := range texts(&l.s) {
		*p = l.text(*p)
	}
	return l
}

func same(a, b api.Schema) bool {
	return a.Name == b.Name && slices.EqualFunc(a.Records, b.Records, sameRecord) && slices.EqualFunc(a.Sagas, b.Sagas, sameSaga) &&
		slices.EqualFunc(a.Services, b.Services, func(a, b api.Service) bool { return a.Name == b.Name && slices.Equal(a.Methods, b.Methods) })
}

// untouched says whether a schema is as it was when it was lent, with its room to spare.
func (l *lent) untouched(t *testing.T, s api.Schema) {
	t.Helper()
	ok := same(l.s, s)
	for _, b := range l.memory {
		ok = ok && string(b[len(b)-5:]) == "spare"
	}
	records, services, sagas := l.s.Records, l.s.Services, l.s.Sagas
	ok = ok && sameRecord(records[:len(records)+1][len(records)], spareRecord)
	ok = ok && services[:len(services)+1][len(services)].Name == "spare" && sagas[:len(sagas)+1][len(sagas)].Name == "spare"
	for _, r := range records {
		ok = ok && sameField(r.Fields[:len(r.Fields)+1][len(r.Fields)], spareField)
		for _, f := range r.Fields {
			ok = ok && f.Type[:len(f.Type)+1][len(f.Type)] == api.Sort{Kind: 99, Name: "spare"}
		}
	}
	for _, v := range services {
		ok = ok && v.Methods[:len(v.Methods)+1][len(v.Methods)] == spareMethod
	}
	for _, g := range sagas {
		ok = ok && g.Steps[:len(g.Steps)+1][len(g.Steps)] == spareStep
	}
	if !ok {
		t.Fatalf("%s is %s now", short(s), short(l.s))
	}
}

// takeBack changes all that was lent.
func (l *lent) takeBack() {
	for _, b := range l.memory {
		for i := range b {
			b[i] = '?'
		}
	}
	for _, r := range l.s.Records {
		for _, f := range r.Fields {
			clear(f.Type[:cap(f.Type)])
		}
		clear(r.Fields[:cap(r.Fields)])
	}
	for _, g := range l.s.Sagas {
		clear(g.Steps[:cap(g.Steps)])
	}
}

// pieces are where things stand in memory.
type pieces []struct{ begin, end uintptr }

func (l *pieces) add(p unsafe.Pointer, size uintptr) {
	if size > 0 {
		*l = append(*l, struct{ begin, end uintptr }{uintptr(p), uintptr(p) + size})
	}
}

func (l *pieces) texts(texts ...string) {
	for _, s := range texts {
		l.add(unsafe.Pointer(unsafe.StringData(s)), uintptr(len(s)))
	}
}

// list adds a list, its spare room too.
func list[T any](l *pieces, of []T) {
	var one T
	l.add(unsafe.Pointer(unsafe.SliceData(of)), uintptr(cap(of))*unsafe.Sizeof(one))
}

func (l *pieces) record(r api.Record) {
	l.texts(r.Name)
	list(l, r.Fields)
	for _, f := range r.Fields {
		l.texts(f.Name)
		list(l, f.Type)
		for _, x := range f.Type {
			l.texts(x.Name)
		}
	}
}

func (l *pieces) method(m api.Method) { l.texts(m.Name, m.Arg, m.Effect, m.Undo) }

func (l *pieces) saga(g api.Saga) {
	l.texts(g.Name, g.Arg)
	list(l, g.Steps)
	for _, p := range g.Steps {
		l.texts(p.Service, p.Method)
	}
}

func (l *pieces) schema(s api.Schema) {
	l.texts(s.Name)
	list(l, s.Records)
	list(l, s.Services)
	list(l, s.Sagas)
	for _, r := range s.Records {
		l.record(r)
	}
	for _, v := range s.Services {
		l.texts(v.Name)
		list(l, v.Methods)
		for _, m := range v.Methods {
			l.method(m)
		}
	}
	for _, g := range s.Sagas {
		l.saga(g)
	}
}

// apart says where two of them share memory.
func (l pieces) apart(t *testing.T) {
	t.Helper()
	slices.SortFunc(l, func(a, b struct{ begin, end uintptr }) int { return cmp.Compare(a.begin, b.begin) })
	for i := 1; i < len(l); i++ {
		if l[i].begin < l[i-1].end {
			t.Fatal("two of them share memory")
		}
	}
}

// R4: what is told of a schema stands in memory of its own, each list and each text of it, each time.
func TestFindsTellNewMemory(t *testing.T) {
	s := read(t, sample)
	l := lend(s)
	var p pieces
	p.schema(l.s)
	for range 2 {
		for _, r := range s.Records {
			got, _ := Find(l.s, r.Name)
			p.record(got)
		}
		for _, v := range s.Services {
			for _, m := range v.Methods {
				got, _ := Method(l.s, v.Name, m.Name)
				p.method(got)
			}
		}
		for _, g := range s.Sagas {
			got, _ := Saga(l.s, g.Name)
			p.saga(got)
		}
	}
	if len(p) < 250 {
		t.Errorf("%d pieces", len(p))
	}
	p.apart(t)
	l.untouched(t, s)
}

func TestFindsStandWhenAllIsTakenBack(t *testing.T) {
	s := read(t, sample)
	l := lend(s)
	r, _ := Find(l.s, "More")
	m, _ := Method(l.s, "Bank", "pay")
	g, _ := Saga(l.s, "watch")
	again, _ := Find(l.s, "More")
	l.takeBack()
	if !sameRecord(r, s.Records[2]) || m != s.Services[0].Methods[0] || !sameSaga(g, s.Sagas[1]) {
		t.Errorf("%v, %v, %v", r, m, g)
	}
	for _, f := range again.Fields {
		clear(f.Type[:cap(f.Type)])
	}
	clear(again.Fields[:cap(again.Fields)])
	if !sameRecord(r, s.Records[2]) {
		t.Errorf("%v, when another answer is changed", r)
	}
}

// Names that are told stay what they are, too, and those that are asked for are not kept.
func TestPlacesAreNewMemory(t *testing.T) {
	var wrong []api.Schema
	for _, x := range spoilers {
		s := read(t, sample)
		x.do(&s)
		wrong = append(wrong, s)
	}
	for _, name := range wrongNames {
		s := read(t, sample)
		s.Records[1].Name = name
		wrong = append(wrong, s)
		s = read(t, sample)
		s.Services[1].Methods[1].Name = name
		wrong = append(wrong, s)
	}
	for _, s := range wrong {
		want, fault := Check(s)
		l := lend(s)
		where, e := Check(l.s)
		again, _ := Check(l.s)
		var p pieces
		p.schema(l.s)
		p.texts(where, again)
		p.apart(t)
		l.untouched(t, s)
		l.takeBack()
		if where != want || e != fault {
			t.Errorf("at %q error %d, not at %q error %d", where, e, want, fault)
		}
	}
	l := lend(read(t, sample))
	name := l.text("Order")
	r, ok := Find(l.s, name)
	l.takeBack()
	if !ok || r.Name != "Order" {
		t.Errorf("%v, %v", r, ok)
	}
}

// R4: no schema is changed, right or not, whatever is asked of it.
func TestSchemasStay(t *testing.T) {
	for _, x := range spoilers {
		s := read(t, sample)
		x.do(&s)
		l := lend(s)
		for range 2 {
			Check(l.s)
			finds(t, l.s)
			l.untouched(t, s)
		}
	}
}
