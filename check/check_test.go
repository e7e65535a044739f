package check

import (
	"slices"
	"strconv"
	"strings"
	"testing"

	"redress/api"
	"redress/idl"
)

// sample is right, and has each thing that the rules speak of.
const sample = `module shop;
record Order { account: text; amount: int; }
choice Way { no: none; far: opt Way; both: Pair; }
record More { tags: list opt list text; amount: int; by: Way; account: text; }
record Pair { a: int; b: bool; c: Empty; }
record Empty { }
service Bank { take pay(Order) -> int undo back; give back(Order) -> none; note look(More) -> none undo unlook; note unlook(More) -> none; give gift(Order) -> int; }
service Shop { give put(Order) -> none undo unput; take unput(Order) -> none; }
service Idle { }
saga buy(Order) { do Bank.pay at 0; do Shop.put at 3; do Bank.gift at 1; }
saga watch(More) { do Bank.look at 2; do Bank.look at 2; do Bank.unlook at 0; }
saga one(Order) { do Bank.back at 1; }`

func read(t *testing.T, text string) api.Schema {
	t.Helper()
	s, at, e := idl.Parse(text)
	if e != api.OK {
		t.Fatalf("%s: error %d at %d", text, e, at)
	}
	return s
}

// says says whether Check answers so of what a text declares, and whether the words do.
func says(t *testing.T, text, where string, e api.Errno) {
	t.Helper()
	s := read(t, text)
	answers(t, s, where, e)
	checks(t, s)
}

// told says so of a schema.
func told(t *testing.T, s api.Schema, where string, e api.Errno) {
	t.Helper()
	answers(t, s, where, e)
	checks(t, s)
}

func kinds(l ...byte) []api.Sort {
	var t []api.Sort
	for _, k := range l {
		t = append(t, api.Sort{Kind: k})
	}
	return t
}

func fieldsOf(n int) []api.Field {
	l := make([]api.Field, n)
	for i := range l {
		l[i] = api.Field{Name: "f" + strconv.Itoa(i), Type: kinds(api.TInt)}
	}
	return l
}

func orderRecord(name string) api.Record {
	return api.Record{Name: name, Fields: []api.Field{{Name: "account", Type: kinds(api.TText)}, {Name: "amount", Type: kinds(api.TInt)}}}
}

func TestExamples(t *testing.T) {
	const order = "module m; record O { account: text; amount: int; } "
	says(t, "module m;", "", api.OK)
	says(t, "module m; record R { a: R; }", "R", api.ErrBottom)
	says(t, "module m; choice W { a: W; b: int; }", "", api.OK)
	says(t, "module m; record Q { a: list Q; }", "", api.OK)
	says(t, "module m; record R { a: int; a: text; }", "R.a", api.ErrTwice)
	says(t, "module m; record R { a: P; }", "R.a", api.ErrType)
	says(t, order+"service S { take t(O) -> int undo u; take u(O) -> none; }", "S.t", api.ErrUndo)
	says(t, order+"service S { take t(O) -> int undo u; give u(O) -> none; }", "", api.OK)
	says(t, order+"service S { take t(O) -> int undo u; give u(O) -> none; } saga g(O) { do S.u at 0; do S.t at 1; }", "g.0", api.ErrUndo)
	says(t, order+"service S { take t(O) -> int undo u; give u(O) -> none; } saga g(O) { do S.t at 0; do S.u at 1; }", "", api.OK)
	says(t, "module shop; record Order { account: text; amount: int; }", "", api.OK)
	says(t, sample, "", api.OK)
}

func TestNothingIsDeclared(t *testing.T) {
	told(t, api.Schema{}, "", api.ErrWord)
	told(t, api.Schema{Name: "m", Records: []api.Record{}, Services: []api.Service{}, Sagas: []api.Saga{}}, "", api.OK)
	told(t, api.Schema{Name: "m", Records: make([]api.Record, 1)}, "", api.ErrWord)
	told(t, api.Schema{Name: "m", Services: make([]api.Service, 70)}, "", api.ErrWord)
	told(t, api.Schema{Name: "m", Sagas: make([]api.Saga, 70)}, "", api.ErrWord)
	says(t, "module m; record R { }", "", api.OK)
	says(t, "module m; choice R { }", "R", api.ErrBottom)
	says(t, "module m; service R { }", "", api.OK)
	says(t, "module m; saga R(R) { }", "R", api.ErrMany)
}

// Rule 1.

var wrongNames = append([]string{"", "_a", "1", "1a", "a b", " a", "a ", "a\n", "a-b", "a.b", ".", "a//", "->", "a\x00", "\xff", "\u00e4", "a\u00e4", strings.Repeat("w", 33), strings.Repeat("w", 100000), strings.Repeat("9", 33)}, keywords...)

func TestNames(t *testing.T) {
	at := map[string]func(s *api.Schema) *string{
		"module":     func(s *api.Schema) *string { return &s.Name },
		"record":     func(s *api.Schema) *string { return &s.Records[4].Name },
		"choice":     func(s *api.Schema) *string { return &s.Records[1].Name },
		"field":      func(s *api.Schema) *string { return &s.Records[2].Fields[0].Name },
		"arm":        func(s *api.Schema) *string { return &s.Records[1].Fields[2].Name },
		"service":    func(s *api.Schema) *string { return &s.Services[2].Name },
		"method":     func(s *api.Schema) *string { return &s.Services[0].Methods[4].Name },
		"saga":       func(s *api.Schema) *string { return &s.Sagas[1].Name },
		"last field": func(s *api.Schema) *string { return &s.Records[3].Fields[2].Name },
	}
	for what, name := range at {
		for _, wrong := range wrongNames {
			s := read(t, sample)
			*name(&s) = wrong
			where := wrong
			if what == "module" {
				where = ""
			}
			told(t, s, where, api.ErrWord)
		}
		for _, right := range []string{"x", "Z", "z9_", "x_", "List", "modules", "undo_", strings.Repeat("w", 32)} {
			s := read(t, sample)
			*name(&s) = right
			if _, e := Check(s); e == api.ErrWord {
				t.Errorf("%s: %q is no name", what, right)
			}
			checks(t, s)
		}
	}
}

// What is no declaration's and no part's own name is asked by other rules alone.
func TestNamesElsewhere(t *testing.T) {
	for _, wrong := range wrongNames {
		if wrong != "" {
			s := read(t, sample)
			s.Services[0].Methods[1].Undo = wrong
			told(t, s, "Bank.pay", api.ErrUndo)
		}
		s := read(t, sample)
		s.Services[0].Methods[1].Arg = wrong
		told(t, s, "Bank.back", api.ErrEffect)
		s = read(t, sample)
		s.Services[0].Methods[1].Effect = wrong + "give"
		if wrong != "" {
			told(t, s, "Bank.back", api.ErrEffect)
		}
		s = read(t, sample)
		s.Sagas[1].Arg = wrong
		told(t, s, "watch", api.ErrSaga)
		s = read(t, sample)
		s.Sagas[0].Steps[2].Service = wrong
		told(t, s, "buy.2", api.ErrStep)
		s = read(t, sample)
		s.Sagas[0].Steps[1].Method = wrong
		told(t, s, "buy.1", api.ErrStep)
		s = read(t, sample)
		s.Records[3].Fields[2].Type[0].Name = wrong
		told(t, s, "Pair.c", api.ErrType)
	}
}

// The schema's own name comes first, then declarations in their order, each ahead of its parts.
func TestFirstWrongName(t *testing.T) {
	places := []func(s *api.Schema, wrong string){
		func(s *api.Schema, wrong string) { s.Name = wrong },
		func(s *api.Schema, wrong string) { s.Records[0].Name = wrong },
		func(s *api.Schema, wrong string) { s.Records[0].Fields[0].Name = wrong },
		func(s *api.Schema, wrong string) { s.Records[0].Fields[1].Name = wrong },
		func(s *api.Schema, wrong string) { s.Records[1].Name = wrong },
		func(s *api.Schema, wrong string) { s.Records[1].Fields[0].Name = wrong },
		func(s *api.Schema, wrong string) { s.Records[3].Fields[1].Name = wrong },
		func(s *api.Schema, wrong string) { s.Services[0].Name = wrong },
		func(s *api.Schema, wrong string) { s.Services[0].Methods[3].Name = wrong },
		func(s *api.Schema, wrong string) { s.Services[1].Name = wrong },
		func(s *api.Schema, wrong string) { s.Services[1].Methods[0].Name = wrong },
		func(s *api.Schema, wrong string) { s.Sagas[0].Name = wrong },
		func(s *api.Schema, wrong string) { s.Sagas[2].Name = wrong },
	}
	for i, a := range places {
		for _, b := range places[i+1:] {
			s := read(t, sample)
			b(&s, "second one")
			a(&s, "first one")
			where := "first one"
			if i == 0 {
				where = ""
			}
			told(t, s, where, api.ErrWord)
		}
	}
}

// Rule 2.

// declaring has so many records, services and sagas.
func declaring(records, services, sagas int) api.Schema {
	s := api.Schema{Name: "m", Records: []api.Record{orderRecord("O")}, Services: []api.Service{{Name: "S", Methods: []api.Method{{Name: "t", Arg: "O", Result: api.TInt, Effect: "note"}}}}}
	for i := 1; i < records; i++ {
		s.Records = append(s.Records, api.Record{Name: "r" + strconv.Itoa(i)})
	}
	for i := 1; i < services; i++ {
		s.Services = append(s.Services, api.Service{Name: "s" + strconv.Itoa(i)})
	}
	for i := range sagas {
		s.Sagas = append(s.Sagas, api.Saga{Name: "g" + strconv.Itoa(i), Arg: "O", Steps: []api.Step{{Service: "S", Method: "t"}}})
	}
	return s
}

func TestManyDeclarations(t *testing.T) {
	for _, n := range [][3]int{{1, 1, 62}, {62, 1, 1}, {63, 1, 0}, {1, 63, 0}, {1, 62, 1}, {22, 21, 21}, {30, 4, 30}} {
		s := declaring(n[0], n[1], n[2])
		told(t, s, "", api.OK)
		more := s
		more.Records = append(slices.Clone(s.Records), api.Record{Name: "Z"})
		told(t, more, "", api.ErrMany)
		more = s
		more.Services = append(slices.Clone(s.Services), api.Service{Name: "Z"})
		told(t, more, "", api.ErrMany)
		more = s
		more.Sagas = append(slices.Clone(s.Sagas), api.Saga{Name: "Z", Arg: "O", Steps: []api.Step{{Service: "S", Method: "t"}}})
		told(t, more, "", api.ErrMany)
		more.Records = append(slices.Clone(s.Records), api.Record{Name: "Y", Fields: fieldsOf(17)})
		told(t, more, "", api.ErrMany)
	}
	told(t, declaring(65, 65, 65), "", api.ErrMany)
	told(t, declaring(1000, 1000, 1000), "", api.ErrMany)
}

func TestManyParts(t *testing.T) {
	for _, choice := range []bool{false, true} {
		for n := range 40 {
			s := read(t, sample)
			s.Records[4] = api.Record{Name: "Empty", Choice: choice, Fields: fieldsOf(n)}
			switch {
			case n > 16:
				told(t, s, "Empty", api.ErrMany)
			case n == 0 && choice:
				told(t, s, "Pair", api.ErrBottom)
			default:
				told(t, s, "", api.OK)
			}
		}
	}
	for n := range 40 {
		s := read(t, sample)
		for i := range n {
			s.Services[2].Methods = append(s.Services[2].Methods, api.Method{Name: "m" + strconv.Itoa(i), Arg: "More", Result: api.TNone, Effect: "take"})
		}
		if n > 16 {
			told(t, s, "Idle", api.ErrMany)
		} else {
			told(t, s, "", api.OK)
		}
	}
	for n := range 40 {
		s := read(t, sample)
		s.Sagas[1].Steps = slices.Repeat(s.Sagas[1].Steps[:1], n)
		if n == 0 || n > 8 {
			told(t, s, "watch", api.ErrMany)
		} else {
			told(t, s, "", api.OK)
		}
	}
	s := read(t, sample)
	s.Sagas[2].Steps, s.Sagas[0].Steps = nil, slices.Repeat(s.Sagas[0].Steps, 3)
	told(t, s, "buy", api.ErrMany)
	s.Services[1].Methods = make([]api.Method, 17)
	for i := range s.Services[1].Methods {
		s.Services[1].Methods[i].Name = "same"
	}
	told(t, s, "Shop", api.ErrMany)
	s.Records[0].Fields = fieldsOf(17)
	told(t, s, "Order", api.ErrMany)
}

// Rule 3.

func TestTwice(t *testing.T) {
	for _, x := range []struct{ text, where string }{
		{"record R { } record R { }", "R"},
		{"record R { } choice R { a: int; }", "R"},
		{"choice R { a: int; } record Q { } choice R { a: int; }", "R"},
		{"record R { } service R { }", "R"},
		{"service R { } record R { }", "R"},
		{"record Q { a: int; } service S { } service S { }", "S"},
		{"record R { a: int; b: int; a: int; }", "R.a"},
		{"record R { a: int; b: int; b: int; a: int; }", "R.b"},
		{"record R { a: int; b: int; a: int; b: int; }", "R.a"},
		{"choice R { a: int; b: int; b: int; }", "R.b"},
		{"record R { a: int; a: int; } record Q { } record Q { }", "R.a"},
		{"record Q { } record Q { a: int; a: int; }", "Q"},
		{"record P { } record Q { a: int; a: int; } record P { }", "Q.a"},
		{"record P { } service Q { note a(P) -> int; note b(P) -> int; take a(P) -> none; }", "Q.a"},
		{"record O { account: text; amount: int; } service S { note a(O) -> int; } saga S(O) { do S.a at 1; }", "S"},
		{"record O { account: text; amount: int; } service S { note a(O) -> int; } saga O(O) { do S.a at 1; }", "O"},
		{"record O { account: text; amount: int; } service S { note a(O) -> int; } saga a(O) { do S.a at 1; } saga b(O) { do S.a at 1; } saga a(O) { do S.a at 1; }", "a"},
	} {
		says(t, "module m; "+x.text, x.where, api.ErrTwice)
	}
	// One name may stand in unlike places, and steps may be alike.
	says(t, `module R; record R { R: list R; a: int; } record Q { a: int; R: R; } choice a { a: Q; }
		record O { account: text; amount: int; O: none; } service S { note a(O) -> int undo S; note S(O) -> none; } service T { note a(O) -> int; }
		saga g(O) { do S.a at 1; do S.a at 1; do T.a at 1; }`, "", api.OK)
	says(t, "module m; record A { } record a { } record aA { } record a_ { } service AA { } service a1 { }", "", api.OK)
}

// Rule 4.

func TestTypes(t *testing.T) {
	put := func(l []api.Sort, right bool) {
		t.Helper()
		s := read(t, sample)
		s.Records[3].Fields[1].Type = l
		if right {
			told(t, s, "", api.OK)
		} else {
			told(t, s, "Pair.b", api.ErrType)
		}
		s = read(t, sample)
		s.Records[1].Fields[1].Type = l
		if right {
			told(t, s, "", api.OK)
		} else {
			told(t, s, "Way.far", api.ErrType)
		}
	}
	put(nil, false)
	put([]api.Sort{}, false)
	for k := range 256 {
		kind := byte(k)
		plain, about := kind >= api.TNone && kind <= api.TText, kind == api.TList || kind == api.TOpt
		put(kinds(kind), plain)
		put(kinds(kind, api.TInt), about)
		put(kinds(api.TList, kind), plain)
		put(kinds(api.TList, kind, api.TInt), about)
		for _, name := range []string{"Order", "Empty", "Way", "Bank", "buy", "shop", "a", "int", "Ordes", "order", "Order ", "\x00"} {
			named := kind == api.TNamed && slices.Contains([]string{"Order", "Empty", "Way"}, name)
			put([]api.Sort{{Kind: api.TOpt}, {Kind: kind, Name: name}}, named)
			put([]api.Sort{{Kind: kind, Name: name}, {Kind: api.TInt}}, false)
			put([]api.Sort{{Kind: api.TList}, {Kind: kind, Name: name}, {Kind: api.TInt}}, false)
		}
	}
	for n := range 40 {
		for _, l := range [][]api.Sort{kinds(api.TInt), {{Kind: api.TNamed, Name: "Pair"}}} {
			put(append(slices.Repeat(kinds(api.TOpt), n+1), l...), n+2 <= 12)
			put(append(slices.Repeat(kinds(api.TList), n+1), l...), n+2 <= 12)
		}
		put(slices.Repeat(kinds(api.TList), n), false)
		put(slices.Repeat(kinds(api.TInt), n), n == 1)
		put(slices.Repeat([]api.Sort{{Kind: api.TNamed, Name: "Order"}}, n), n == 1)
	}
	put(slices.Repeat(kinds(api.TList), 1000000), false)
}

func TestResults(t *testing.T) {
	for k := range 256 {
		s := read(t, sample)
		s.Services[0].Methods[4].Result = byte(k)
		if k == api.TInt || k == api.TNone {
			told(t, s, "", api.OK)
		} else {
			told(t, s, "Bank.gift", api.ErrType)
		}
	}
	// Fields come ahead of methods, methods in their order.
	s := read(t, sample)
	s.Services[1].Methods[0].Result = 9
	told(t, s, "Shop.put", api.ErrType)
	s.Services[0].Methods[3].Result = api.TText
	told(t, s, "Bank.unlook", api.ErrType)
	s.Records[2].Fields[3].Type = kinds(api.TText, api.TText)
	told(t, s, "More.account", api.ErrType)
	s.Records[2].Fields[2].Type[0].Name = "Hay"
	told(t, s, "More.by", api.ErrType)
}

// Rule 5.

func TestFinite(t *testing.T) {
	for _, x := range []struct{ text, where string }{
		{"record R { a: int; b: R; }", "R"},
		{"record R { a: opt R; b: list list R; }", ""},
		{"choice W { }", "W"},
		{"choice W { a: W; }", "W"},
		{"choice W { a: W; b: list W; }", ""},
		{"choice W { a: W; b: W; c: none; }", ""},
		{"record R { a: W; } choice W { a: R; b: R; }", "R"},
		{"record R { a: W; } choice W { a: R; b: bool; }", ""},
		{"choice W { a: R; b: R; } record R { a: W; }", "W"},
		{"record R { a: Q; } record Q { a: P; } record P { a: R; }", "R"},
		{"record R { a: Q; } record Q { a: P; } record P { a: opt R; }", ""},
		{"record E { } record R { a: E; b: V; } choice V { }", "R"},
		{"record E { } choice V { } record R { a: E; b: V; }", "V"},
		{"record E { } choice V { } record R { a: E; b: opt V; }", "V"},
		{"choice W { a: V; b: E; } choice V { a: W; } record E { }", ""},
		{"record E { a: int; } record F { a: E; b: G; } record G { a: H; } record H { a: list F; }", ""},
		{"record A { a: B; } record B { a: B; } record C { a: A; }", "A"},
	} {
		e := api.OK
		if x.where != "" {
			e = api.ErrBottom
		}
		says(t, "module m; "+x.text, x.where, e)
	}
}

// Chains of 64, in both orders, and closed to a circle.
func TestLongChains(t *testing.T) {
	for _, choice := range []bool{false, true} {
		chain := make([]api.Record, 64)
		for i := range chain {
			chain[i] = api.Record{Name: "r" + strconv.Itoa(i), Choice: choice, Fields: slices.Repeat([]api.Field{{}}, 16)}
			for j := range chain[i].Fields {
				chain[i].Fields[j] = api.Field{Name: "f" + strconv.Itoa(j), Type: []api.Sort{{Kind: api.TNamed, Name: "r" + strconv.Itoa((i+1)%64)}}}
			}
		}
		answers(t, api.Schema{Name: "m", Records: chain}, "r0", api.ErrBottom)
		turned := slices.Clone(chain)
		slices.Reverse(turned)
		answers(t, api.Schema{Name: "m", Records: turned}, "r63", api.ErrBottom)
		chain[63].Fields = fieldsOf(1)
		answers(t, api.Schema{Name: "m", Records: chain}, "", api.OK)
		turned[0].Fields = fieldsOf(1)
		answers(t, api.Schema{Name: "m", Records: turned}, "", api.OK)
		chain[62].Fields = []api.Field{{Name: "a", Type: []api.Sort{{Kind: api.TNamed, Name: "r62"}}}}
		answers(t, api.Schema{Name: "m", Records: chain}, "r0", api.ErrBottom)
	}
}

// Each schema of up to three records and choices with up to two fields each, of a few types.
func TestFiniteOfAllSmall(t *testing.T) {
	types := [][]api.Sort{kinds(api.TInt), {{Kind: api.TNamed, Name: "A"}}, {{Kind: api.TNamed, Name: "B"}}, {{Kind: api.TNamed, Name: "C"}}, {{Kind: api.TList}, {Kind: api.TNamed, Name: "A"}}}
	var bodies [][]api.Field
	bodies = append(bodies, nil)
	for _, a := range types {
		bodies = append(bodies, []api.Field{{Name: "a", Type: a}})
		for _, b := range types {
			bodies = append(bodies, []api.Field{{Name: "a", Type: a}, {Name: "b", Type: b}})
		}
	}
	var all []api.Record
	for _, b := range bodies {
		all = append(all, api.Record{Fields: b}, api.Record{Choice: true, Fields: b})
	}
	s := api.Schema{Name: "m", Records: make([]api.Record, 3)}
	bottomless := 0
	for _, a := range all {
		for _, b := range all {
			for _, c := range all {
				a.Name, b.Name, c.Name = "A", "B", "C"
				s.Records[0], s.Records[1], s.Records[2] = a, b, c
				where, e, set := "", api.OK, least(s)
				for i, r := range s.Records {
					if set>>i&1 == 0 {
						where, e = r.Name, api.ErrBottom
						bottomless++
						break
					}
				}
				answers(t, s, where, e)
			}
		}
	}
	if bottomless < 50000 {
		t.Errorf("%d of them are bottomless", bottomless)
	}
}

// Rule 6, and 8.

// orders are records and choices by the name R, and whether that is an order record.
var orders = []struct {
	text string
	is   bool
}{
	{"record R { account: text; amount: int; }", true},
	{"record R { amount: int; account: text; }", true},
	{"record R { a: list R; amount: int; b: none; account: text; c: opt R; }", true},
	{"record R { }", false},
	{"record R { account: text; }", false},
	{"record R { amount: int; }", false},
	{"record R { account: int; amount: text; }", false},
	{"record R { account: text; amount: text; }", false},
	{"record R { account: int; amount: int; }", false},
	{"record R { account: opt text; amount: int; }", false},
	{"record R { account: text; amount: list int; }", false},
	{"record R { account: text; amount: opt int; }", false},
	{"record R { account: text; amount: bool; }", false},
	{"record R { account: none; amount: int; }", false},
	{"record R { account: T; amount: int; }", false},
	{"record R { account: text; amount: T; }", false},
	{"record R { Account: text; amount: int; }", false},
	{"record R { account: text; amounts: int; }", false},
	{"record R { accoun: text; account_: text; amount: int; }", false},
	{"choice R { account: text; amount: int; }", false},
	{"service R { }", false},
	{"record Q { account: text; amount: int; }", false},
	{"record r { account: text; amount: int; }", false},
}

func TestOrderRecords(t *testing.T) {
	const ahead = "module m; record T { } record O { account: text; amount: int; } "
	for _, x := range orders {
		where, e := "S.n", api.ErrEffect
		if x.is {
			where, e = "", api.OK
		}
		says(t, ahead+x.text+" service S { note a(O) -> int; note n(R) -> int; give b(O) -> int; }", where, e)
		says(t, ahead+"service S { note n(R) -> int; } "+x.text, where, e)
		where, e = "g", api.ErrSaga
		if x.is {
			where, e = "g.0", api.ErrStep // another Arg than the step's
		}
		says(t, ahead+x.text+" service S { note a(O) -> int; } saga g(R) { do S.a at 0; }", where, e)
	}
}

func TestEffects(t *testing.T) {
	for _, wrong := range []string{"", "Give", "gives", "giv", "give ", "none", "undo", "takes", "note\x00", "x", strings.Repeat("give", 10000)} {
		s := read(t, sample)
		s.Services[0].Methods[4].Effect = wrong
		told(t, s, "Bank.gift", api.ErrEffect)
		s.Services[0].Methods[2].Effect = wrong
		told(t, s, "Bank.look", api.ErrEffect)
		s.Services[0].Methods[0].Effect = wrong
		told(t, s, "Bank.pay", api.ErrEffect)
	}
	for _, right := range []string{"give", "take", "note"} {
		s := read(t, sample)
		s.Services[0].Methods[4].Effect = right
		told(t, s, "", api.OK)
	}
	s := read(t, sample)
	s.Services[1].Methods[1].Arg = ""
	told(t, s, "Shop.unput", api.ErrEffect)
	s.Services[0].Methods[4].Arg = "Pair"
	told(t, s, "Bank.gift", api.ErrEffect)
}

// Rule 7.

func TestUndos(t *testing.T) {
	const ahead = "module m; record O { account: text; amount: int; } record P { account: text; amount: int; } service Z { give z(O) -> none; give t(O) -> none; } "
	for _, x := range []struct{ text, where string }{
		{"take t(O) -> int undo u; give u(O) -> none;", ""},
		{"give u(O) -> none; take t(O) -> none undo u;", ""},
		{"give t(O) -> int undo u; take u(O) -> none;", ""},
		{"note t(O) -> int undo u; note u(O) -> none;", ""},
		{"note t(P) -> int undo u; note u(P) -> none;", ""},
		{"take t(O) -> int undo u; take v(O) -> none undo u; give u(O) -> none;", ""},
		{"take t(O) -> int undo u; take u(O) -> none;", "S.t"},
		{"give t(O) -> int undo u; give u(O) -> none;", "S.t"},
		{"note t(O) -> int undo u; give u(O) -> none;", "S.t"},
		{"note t(O) -> int undo u; take u(O) -> none;", "S.t"},
		{"take t(O) -> int undo u; note u(O) -> none;", "S.t"},
		{"give t(O) -> int undo u; note u(O) -> none;", "S.t"},
		{"take t(O) -> int undo u; give u(P) -> none;", "S.t"},
		{"take t(O) -> int undo u; give u(O) -> int;", "S.t"},
		{"take t(O) -> int undo u;", "S.t"},
		{"take t(O) -> int undo z;", "S.t"},
		{"take t(O) -> int undo Z;", "S.t"},
		{"take t(O) -> int undo S;", "S.t"},
		{"take t(O) -> int undo O;", "S.t"},
		{"take t(O) -> none undo t;", "S.t"},
		{"note t(O) -> none undo t;", "S.t"},
		{"note t(O) -> none undo u; note u(O) -> none undo t;", "S.t"},
		{"take t(O) -> none undo u; give u(O) -> none undo v; take v(O) -> none;", "S.t"},
		{"give u(O) -> none undo v; take v(O) -> none; take t(O) -> none undo u;", "S.t"},
		{"take a(O) -> none; take b(O) -> none undo c; take t(O) -> none undo u; give c(O) -> none; give u(P) -> none;", "S.t"},
		{"take a(O) -> none undo b; take b(O) -> none; take t(O) -> none undo u; give u(P) -> none;", "S.a"},
	} {
		e := api.OK
		if x.where != "" {
			e = api.ErrUndo
		}
		says(t, ahead+"service S { "+x.text+" }", x.where, e)
		says(t, ahead+"service A { take t(O) -> none undo u; give u(O) -> none; } service S { "+x.text+" }", x.where, e)
	}
}

// Rules 9 and 10.

func TestSteps(t *testing.T) {
	const ahead = `module m; record O { account: text; amount: int; } record P { account: text; amount: int; }
		service S { take t(O) -> int undo u; give u(O) -> none; note n(O) -> int; take p(P) -> int undo q; give q(P) -> none; } service T { note T(O) -> int; }
		saga g(O) { `
	for _, x := range []struct {
		steps, where string
		e            api.Errno
	}{
		{"do S.t at 0;", "", api.OK},
		{"do S.u at 1;", "", api.OK},
		{"do S.n at 2;", "", api.OK},
		{"do T.T at 3;", "", api.OK},
		{"do S.t at 0; do S.t at 3; do S.t at 0;", "", api.OK},
		{"do S.t at 0; do S.n at 3;", "", api.OK},
		{"do S.t at 4;", "g.0", api.ErrStep},
		{"do S.t at 0; do S.t at 999999999;", "g.1", api.ErrStep},
		{"do S.T at 0;", "g.0", api.ErrStep},
		{"do T.t at 0;", "g.0", api.ErrStep},
		{"do O.t at 0;", "g.0", api.ErrStep},
		{"do g.t at 0;", "g.0", api.ErrStep},
		{"do t.S at 0;", "g.0", api.ErrStep},
		{"do S.t at 0; do S.p at 0;", "g.1", api.ErrStep},
		{"do S.p at 0; do S.p at 4;", "g.0", api.ErrStep},
		{"do S.u at 0; do S.t at 0;", "g.0", api.ErrUndo},
		{"do S.n at 0; do S.t at 0;", "g.0", api.ErrUndo},
		{"do S.t at 0; do S.n at 0; do S.n at 0; do S.n at 0;", "g.1", api.ErrUndo},
		{"do S.n at 0; do S.t at 4;", "g.1", api.ErrStep},
		{"do S.n at 0; do S.x at 1; do S.y at 1;", "g.1", api.ErrStep},
		{"do S.t at 0; do S.t at 0; do S.t at 0; do S.t at 0; do S.t at 0; do S.t at 0; do S.n at 0; do S.n at 0;", "g.6", api.ErrUndo},
		{"do S.t at 0; do S.t at 0; do S.t at 0; do S.t at 0; do S.t at 0; do S.t at 0; do S.t at 0; do S.x at 0;", "g.7", api.ErrStep},
	} {
		says(t, ahead+x.steps+" }", x.where, x.e)
		where, e := x.where, x.e
		if e == api.OK {
			where, e = "h.0", api.ErrUndo
		}
		says(t, ahead+x.steps+" } saga h(O) { do S.n at 0; do S.n at 0; }", where, e)
	}
	for _, at := range []int{-1, 4, 5, 10, -3, 1 << 40, -1 << 62, 1<<63 - 1, -1 << 63, 0, 1, 2, 3} {
		s := read(t, sample)
		s.Sagas[1].Steps[1].At = at
		if at >= 0 && at <= 3 {
			told(t, s, "", api.OK)
		} else {
			told(t, s, "watch.1", api.ErrStep)
		}
	}
}

// R3: what was asked ahead is no matter.
func TestAnswersTheSameAgain(t *testing.T) {
	l := []api.Schema{read(t, sample), {}, {Name: "m"}, declaring(65, 1, 1), read(t, "module m; record R { a: R; }"), read(t, "module m; record R { a: P; }")}
	for _, a := range l {
		for _, b := range l {
			Check(a)
			Find(a, "Order")
			checks(t, b)
		}
	}
}

// R1: whatever is handed in, however much of it.
func TestHuge(t *testing.T) {
	long := strings.Repeat("w", 1<<24)
	l := make([]api.Record, 1<<20)
	for i := range l {
		l[i].Name = "R"
	}
	answers(t, api.Schema{Name: "m", Records: l}, "", api.ErrMany)
	l[len(l)-1].Name = long
	answers(t, api.Schema{Name: "m", Records: l}, long, api.ErrWord)
	fields := make([]api.Field, 1<<20)
	for i := range fields {
		fields[i].Name = "a"
	}
	answers(t, api.Schema{Name: "m", Records: []api.Record{{Name: "R", Fields: fields}}}, "R", api.ErrMany)
	answers(t, api.Schema{Name: "m", Services: []api.Service{{Name: "S", Methods: make([]api.Method, 1<<20)}}}, "", api.ErrWord)
	answers(t, api.Schema{Name: "m", Sagas: []api.Saga{{Name: "g", Steps: make([]api.Step, 1<<20)}}}, "g", api.ErrMany)
	s := read(t, sample)
	s.Sagas[0].Arg, s.Sagas[0].Steps[0].Service, s.Services[0].Methods[0].Undo = long, long, long
	answers(t, s, "Bank.pay", api.ErrUndo)
	s.Services[0].Methods[0].Effect, s.Services[1].Methods[0].Arg = long, long
	answers(t, s, "Bank.pay", api.ErrEffect)
	s.Records[0].Fields[0].Type[0].Name = long
	answers(t, s, "Order.account", api.ErrType)
	if r, ok := Find(api.Schema{Records: l}, long); !ok || r.Name != long {
		t.Error("the last one of many is not found")
	}
}
