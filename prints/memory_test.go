package prints

import (
	"cmp"
	"slices"
	"testing"
	"unsafe"

	"redress/api"
)

// lent is a schema whose texts stand in memory that can be changed, and whose lists have room to spare.
type lent struct {
	s      api.Schema
	memory [][]byte
}

func (l *lent) text(s string) string {
	b := append([]byte(s), "spare"...)
	l.memory = append(l.memory, b)
	return unsafe.String(&b[0], len(s))
}

func spared[T any](of []T, spare T) []T {
	return append(of[:len(of):len(of)], spare)[:len(of)]
}

var (
	spareSort   = api.Sort{Kind: 99, Name: "spare"}
	spareField  = api.Field{Name: "spare", Type: []api.Sort{spareSort}}
	spareRecord = api.Record{Name: "spare", Choice: true, Fields: []api.Field{spareField}}
	spareMethod = api.Method{Name: "spare", Arg: "spare", Result: 99, Effect: "spare", Undo: "spare"}
	spareStep   = api.Step{Service: "spare", Method: "spare", At: 99}
)

func lend(s api.Schema) *lent {
	l := &lent{s: whole(s)}
	for i, r := range l.s.Records {
		for j, f := range r.Fields {
			r.Fields[j].Type = spared(f.Type, spareSort)
		}
		l.s.Records[i].Fields = spared(r.Fields, spareField)
	}
	for i, v := range l.s.Services {
		l.s.Services[i].Methods = spared(v.Methods, spareMethod)
	}
	for i, g := range l.s.Sagas {
		l.s.Sagas[i].Steps = spared(g.Steps, spareStep)
	}
	l.s.Records = spared(l.s.Records, spareRecord)
	l.s.Services = spared(l.s.Services, api.Service{Name: "spare", Methods: []api.Method{spareMethod}})
	l.s.Sagas = spared(l.s.Sagas, api.Saga{Name: "spare", Arg: "spare", Steps: []api.Step{spareStep}})
	for _, p := range texts(&l.s) {
		*p = l.text(*p)
	}
	return l
}

// untouched says whether a schema is as it was when it was lent, with its room to spare.
func (l *lent) untouched(t *testing.T, s api.Schema) {
	t.Helper()
	ok := same(l.s, s)
	for _, b := range l.memory {
		ok = ok && string(b[len(b)-5:]) == "spare"
	}
	records, services, sagas := l.s.Records, l.s.Services, l.s.Sagas
	ok = ok && sameRecord(records[:len(records)+1][len(records)], spareRecord)
	ok = ok && services[:len(services)+1][len(services)].Name == "spare" && sagas[:len(sagas)+1][len(sagas)].Name == "spare"
	for _, r := range records {
		ok = ok && sameField(r.Fields[:len(r.Fields)+1][len(r.Fields)], spareField)
		for _, f := range r.Fields {
			ok = ok && f.Type[:len(f.Type)+1][len(f.Type)] == spareSort
		}
	}
	for _, v := range services {
		ok = ok && v.Methods[:len(v.Methods)+1][len(v.Methods)] == spareMethod
	}
	for _, g := range sagas {
		ok = ok && g.Steps[:len(g.Steps)+1][len(g.Steps)] == spareStep
	}
	if !ok {
		t.Fatalf("%s is %s now", short(s), short(l.s))
	}
}

// takeBack changes all texts that were lent.
func (l *lent) takeBack() {
	for _, b := range l.memory {
		for i := range b {
			b[i] = '?'
		}
	}
}

// apart says where two texts share memory.
func apart(t *testing.T, texts ...string) {
	t.Helper()
	var l []struct{ begin, end uintptr }
	for _, s := range texts {
		if len(s) > 0 {
			begin := uintptr(unsafe.Pointer(unsafe.StringData(s)))
			l = append(l, struct{ begin, end uintptr }{begin, begin + uintptr(len(s))})
		}
	}
	slices.SortFunc(l, func(a, b struct{ begin, end uintptr }) int { return cmp.Compare(a.begin, b.begin) })
	for i := 1; i < len(l); i++ {
		if l[i].begin < l[i-1].end {
			t.Fatal("two texts share memory")
		}
	}
}

func textsOf(s api.Schema) []string {
	var l []string
	for _, p := range texts(&s) {
		l = append(l, *p)
	}
	return l
}

// R4: a text stands in memory of its own, each time, and hangs on nothing that was handed in.
func TestTextsAreNewMemory(t *testing.T) {
	for _, text := range []string{sample, "module m;", "module m; record R { }"} {
		s := read(t, text)
		want := byWords(s)
		l := lend(s)
		a, b := asked(l.s), asked(l.s)
		apart(t, append(textsOf(l.s), a.text, b.text)...)
		l.untouched(t, s)
		l.takeBack()
		if a != want || b != want {
			t.Errorf("%s, %s, when all is taken back; not %s", short(a), short(b), short(want))
		}
		if again := asked(s); again != want {
			t.Errorf("%s; not %s", short(again), short(want))
		}
	}
}

func TestTypesAreNewMemory(t *testing.T) {
	for _, of := range [][]api.Sort{named("R"), named("Longer", api.TList, api.TOpt), kinds(api.TInt), kinds(api.TOpt, api.TText)} {
		want, l := typeByWords(of), &lent{}
		lentType := spared(slices.Clone(of), spareSort)
		for i := range lentType {
			lentType[i].Name = l.text(lentType[i].Name)
		}
		a, b := Type(lentType), Type(lentType)
		apart(t, lentType[len(of)-1].Name, a, b)
		if !slices.Equal(lentType, of) || lentType[:len(of)+1][len(of)] != spareSort {
			t.Errorf("%s is %s now", short(of), short(lentType))
		}
		l.takeBack()
		clear(lentType)
		if a != want || b != want {
			t.Errorf("%s, %s, when all is taken back; not %s", a, b, want)
		}
	}
}

// R4: what is refused stays as it was, too.
func TestRefusedStay(t *testing.T) {
	wrong := []api.Schema{read(t, "module list_; record R { list_: R; }"), {Name: "a b"}, sized(t, 65537)}
	for _, x := range broken {
		wrong = append(wrong, read(t, "module m; "+x.text))
	}
	for _, s := range wrong {
		l := lend(s)
		want := byWords(s)
		if a := asked(l.s); a != want || a.e == api.OK {
			t.Errorf("%s; not %s", short(a), short(want))
		}
		l.untouched(t, s)
	}
	for _, of := range [][]api.Sort{kinds(api.TInt, api.TInt), named("int"), named("a b", api.TOpt), kinds(api.TList), kinds(8), slices.Repeat(kinds(api.TOpt), 13)} {
		lentType := spared(slices.Clone(of), spareSort)
		if a := Type(lentType); a != "" || !slices.Equal(lentType, of) || lentType[:len(of)+1][len(of)] != spareSort {
			t.Errorf("%s is %s now, its text %q", short(of), short(lentType), a)
		}
	}
}
