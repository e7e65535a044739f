package idl

import (
	"cmp"
	"slices"
	"testing"
	"unsafe"

	"redress/api"
)

// lend is a text in memory that can be changed.
func lend(s string) (string, []byte) {
	b := append([]byte(s), "spare"...)
	return unsafe.String(&b[0], len(s)), b
}

// pieces are where things stand in memory.
type pieces []struct{ begin, end uintptr }

func (l *pieces) add(p unsafe.Pointer, size uintptr) {
	if size > 0 {
		*l = append(*l, struct{ begin, end uintptr }{uintptr(p), uintptr(p) + size})
	}
}

func (l *pieces) texts(texts ...string) {
	for _, s := range texts {
		l.add(unsafe.Pointer(unsafe.StringData(s)), uintptr(len(s)))
	}
}

// list adds a list, its spare room too.
func list[T any](l *pieces, of []T) {
	var one T
	l.add(unsafe.Pointer(unsafe.SliceData(of)), uintptr(cap(of))*unsafe.Sizeof(one))
}

func (l *pieces) sorts(t []api.Sort) {
	list(l, t)
	for _, s := range t {
		l.texts(s.Name)
	}
}

func (l *pieces) schema(s api.Schema) {
	list(l, s.Records)
	list(l, s.Services)
	list(l, s.Sagas)
	l.texts(s.Name)
	for _, r := range s.Records {
		list(l, r.Fields)
		l.texts(r.Name)
		for _, f := range r.Fields {
			l.texts(f.Name)
			l.sorts(f.Type)
		}
	}
	for _, v := range s.Services {
		list(l, v.Methods)
		l.texts(v.Name)
		for _, m := range v.Methods {
			l.texts(m.Name, m.Arg, m.Effect, m.Undo)
		}
	}
	for _, g := range s.Sagas {
		list(l, g.Steps)
		l.texts(g.Name, g.Arg)
		for _, p := range g.Steps {
			l.texts(p.Service, p.Method)
		}
	}
}

// apart says where two of them share memory.
func (l pieces) apart(t *testing.T) {
	t.Helper()
	slices.SortFunc(l, func(a, b struct{ begin, end uintptr }) int { return cmp.Compare(a.begin, b.begin) })
	for i := 1; i < len(l); i++ {
		if l[i].begin < l[i-1].end {
			t.Fatal("two of them share memory")
		}
	}
}

// R4: what Parse tells stands in memory of its own, each list and each text of it, each time.
func TestParseTellsNewMemory(t *testing.T) {
	text, memory := lend(sample)
	a, b := asked(text), asked(text)
	var l pieces
	l.texts(text)
	l.schema(a.s)
	l.schema(b.s)
	if len(l) < 100 {
		t.Errorf("%d pieces", len(l))
	}
	l.apart(t)
	if string(memory) != sample+"spare" {
		t.Errorf("the text is %q now", memory)
	}
	for i := range memory {
		memory[i] = '?'
	}
	if a.e != api.OK || !sameSchema(a.s, sampled()) {
		t.Errorf("%v, when the text is taken back", a)
	}
	spoil(a.s)
	if b.e != api.OK || !sameSchema(b.s, sampled()) {
		t.Errorf("%v, when another answer is changed", b)
	}
	right(t, sample, sampled())
}

// spoil changes each list of a schema.
func spoil(s api.Schema) {
	for _, r := range s.Records {
		for _, f := range r.Fields {
			clear(f.Type[:cap(f.Type)])
		}
		clear(r.Fields[:cap(r.Fields)])
	}
	for _, v := range s.Services {
		clear(v.Methods[:cap(v.Methods)])
	}
	for _, g := range s.Sagas {
		clear(g.Steps[:cap(g.Steps)])
	}
	clear(s.Records[:cap(s.Records)])
	clear(s.Services[:cap(s.Services)])
	clear(s.Sagas[:cap(s.Sagas)])
}

func TestTypeTellsNewMemory(t *testing.T) {
	text, memory := lend("list opt list List")
	want := named("List", api.TList, api.TOpt, api.TList)
	a, _, _ := Type(text)
	b, _, _ := Type(text)
	var l pieces
	l.texts(text)
	l.sorts(a)
	l.sorts(b)
	l.apart(t)
	if string(memory) != "list opt list Listspare" {
		t.Errorf("the text is %q now", memory)
	}
	for i := range memory {
		memory[i] = '?'
	}
	if !slices.Equal(a, want) {
		t.Errorf("%v, when the text is taken back", a)
	}
	clear(a[:cap(a)])
	if !slices.Equal(b, want) {
		t.Errorf("%v, when another answer is changed", b)
	}
	typed(t, "list opt list List", want, 0, api.OK)
}

// R4: a text that is refused stays as it was, too.
func TestRefusedTextsStay(t *testing.T) {
	for _, s := range []string{"module m; record R { a int }", "module -", "list list", "7", "module m; saga g(R) {"} {
		text, memory := lend(s)
		asked(text)
		Type(text)
		if string(memory) != s+"spare" {
			t.Errorf("%q is %q now", s, memory)
		}
	}
}
