package check

import (
	"slices"
	"strings"
	"testing"

	"redress/api"
)

func sameField(a, b api.Field) bool { return a.Name == b.Name && slices.Equal(a.Type, b.Type) }

func sameRecord(a, b api.Record) bool {
	return a.Name == b.Name && a.Choice == b.Choice && slices.EqualFunc(a.Fields, b.Fields, sameField)
}

func sameSaga(a, b api.Saga) bool {
	return a.Name == b.Name && a.Arg == b.Arg && slices.Equal(a.Steps, b.Steps)
}

// finds says whether each name that stands in a schema, and some that do not, are found as the words have it.
func finds(t *testing.T, s api.Schema) {
	t.Helper()
	names := []string{"", "none", "never"}
	for _, p := range texts(&s) {
		names = append(names, *p)
	}
	for _, name := range names {
		findsRecord(t, s, name)
		findsSaga(t, s, name)
	}
	names = names[:3]
	for _, v := range s.Services {
		names = append(names, v.Name)
		for _, m := range v.Methods {
			names = append(names, m.Name)
		}
	}
	for _, service := range names {
		for _, name := range names {
			want, there := methodByWords(s, service, name)
			if got, ok := Method(s, service, name); ok != there || got != want {
				t.Fatalf("%s: method %q of %q is %v, %v", short(s), name, service, got, ok)
			}
		}
	}
}

func findsRecord(t *testing.T, s api.Schema, name string) {
	t.Helper()
	got, ok := Find(s, name)
	for _, want := range s.Records {
		if want.Name == name {
			if !ok || !sameRecord(got, want) {
				t.Fatalf("%s: record %q is %v, %v", short(s), name, got, ok)
			}
			return
		}
	}
	if ok || !sameRecord(got, api.Record{}) {
		t.Fatalf("%s: record %q is %v, %v", short(s), name, got, ok)
	}
}

func findsSaga(t *testing.T, s api.Schema, name string) {
	t.Helper()
	got, ok := Saga(s, name)
	for _, want := range s.Sagas {
		if want.Name == name {
			if !ok || !sameSaga(got, want) {
				t.Fatalf("%s: saga %q is %v, %v", short(s), name, got, ok)
			}
			return
		}
	}
	if ok || !sameSaga(got, api.Saga{}) {
		t.Fatalf("%s: saga %q is %v, %v", short(s), name, got, ok)
	}
}

// P13.2

func TestFind(t *testing.T) {
	s := read(t, sample)
	finds(t, s)
	for _, name := range []string{"Order", "Way", "More", "Pair", "Empty"} {
		if r, ok := Find(s, name); !ok || r.Name != name || r.Choice != (name == "Way") {
			t.Errorf("%s: %v, %v", name, r, ok)
		}
	}
	for _, name := range []string{"Bank", "buy", "shop", "account", "order", "Orde", "Order ", "Orders", "", "\x00", strings.Repeat("w", 100000)} {
		if r, ok := Find(s, name); ok || !sameRecord(r, api.Record{}) {
			t.Errorf("%.20q: %v, %v", name, r, ok)
		}
	}
	if r, ok := Find(s, "Pair"); !ok || !sameRecord(r, s.Records[3]) {
		t.Errorf("Pair: %v, %v", r, ok)
	}
}

func TestMethod(t *testing.T) {
	s := read(t, sample)
	if m, ok := Method(s, "Bank", "pay"); !ok || m != (api.Method{Name: "pay", Arg: "Order", Result: api.TInt, Effect: "take", Undo: "back"}) {
		t.Errorf("%v, %v", m, ok)
	}
	for _, x := range [][2]string{{"Bank", "put"}, {"Shop", "pay"}, {"Idle", "pay"}, {"Order", "pay"}, {"buy", "pay"}, {"", "pay"}, {"Bank", ""}, {"Bank", "Pay"}, {"bank", "pay"}, {"pay", "Bank"}, {"Bank", "pay "}} {
		if m, ok := Method(s, x[0], x[1]); ok || m != (api.Method{}) {
			t.Errorf("%v: %v, %v", x, m, ok)
		}
	}
}

func TestSaga(t *testing.T) {
	s := read(t, sample)
	if g, ok := Saga(s, "watch"); !ok || !sameSaga(g, s.Sagas[1]) || len(g.Steps) != 3 {
		t.Errorf("%v, %v", g, ok)
	}
	for _, name := range []string{"Bank", "Order", "shop", "pay", "Watch", "watch ", ""} {
		if g, ok := Saga(s, name); ok || !sameSaga(g, api.Saga{}) {
			t.Errorf("%q: %v, %v", name, g, ok)
		}
	}
}

// Of a schema that is not right: names that are there twice, or none, things with anything in them.
func TestFindsInWrongSchemas(t *testing.T) {
	finds(t, api.Schema{})
	s := api.Schema{
		Name: "R",
		Records: []api.Record{
			{Name: "R", Fields: []api.Field{{Name: "first"}}}, {Name: "R", Choice: true}, {Name: "", Choice: true, Fields: []api.Field{{}, {Name: "a b", Type: []api.Sort{{Kind: 200, Name: "\x00"}, {}}}}}, {Name: ""}, {Name: "S", Fields: make([]api.Field, 40)},
		},
		Services: []api.Service{
			{Name: "S", Methods: []api.Method{{Name: "t", Arg: "first"}, {Name: "t", Arg: "second"}, {Name: "", Result: 77, Effect: "?", Undo: "!"}}},
			{Name: "S", Methods: []api.Method{{Name: "t", Arg: "third"}, {Name: "u"}}},
			{Name: "", Methods: []api.Method{{Name: "t", Arg: "fourth"}, {Name: ""}}},
			{Name: "R"},
		},
		Sagas: []api.Saga{{Name: "g", Arg: "first"}, {Name: "g", Steps: make([]api.Step, 20)}, {Name: "", Steps: []api.Step{{Service: "\xff", Method: "", At: -1 << 63}}}, {Name: "R"}},
	}
	finds(t, s)
	if r, ok := Find(s, "R"); !ok || r.Choice || len(r.Fields) != 1 {
		t.Errorf("R: %v, %v", r, ok)
	}
	if r, ok := Find(s, ""); !ok || !sameRecord(r, s.Records[2]) {
		t.Errorf("the empty name: %v, %v", r, ok)
	}
	if m, ok := Method(s, "S", "t"); !ok || m.Arg != "first" {
		t.Errorf("S.t: %v, %v", m, ok)
	}
	if m, ok := Method(s, "S", ""); !ok || m != s.Services[0].Methods[2] {
		t.Errorf("S and the empty name: %v, %v", m, ok)
	}
	if m, ok := Method(s, "", "t"); !ok || m.Arg != "fourth" {
		t.Errorf("the empty name's t: %v, %v", m, ok)
	}
	// The first service of that name is asked, and no other one.
	if m, ok := Method(s, "S", "u"); ok || m != (api.Method{}) {
		t.Errorf("S.u: %v, %v", m, ok)
	}
	if g, ok := Saga(s, "g"); !ok || g.Arg != "first" || len(g.Steps) != 0 {
		t.Errorf("g: %v, %v", g, ok)
	}
	if g, ok := Saga(s, ""); !ok || !sameSaga(g, s.Sagas[2]) {
		t.Errorf("the empty name: %v, %v", g, ok)
	}
}
