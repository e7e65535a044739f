package prints

import (
	"slices"
	"strconv"
	"strings"
	"testing"

	"redress/api"
	"redress/check"
)

// sample is right, and has each thing that a schema's text may say. It is laid out so that its own text is another one.
const sample = `module shop;
saga one(Order){do Bank.back at 1;}
record Order { account: text; amount: int; }
service Bank { take pay(Order) -> int undo back; give back(Order) -> none; note look(More) -> none undo unlook; note unlook(More) -> none; give gift(Order) -> int; }
choice Way { no: none; far: opt Way; both: Pair; }
service Idle { }
record More { tags: list opt list text; amount: int; by: Way; account: text; }
saga watch(More) { do Bank.look at 2; do Bank.look at 2; do Bank.unlook at 0; }
record Empty { } // nothing
service Shop { give put(Order) -> none undo unput; take unput(Order) -> none; }
record Pair { a: int; b: bool; c: Empty; }
saga buy(Order) { do Bank.pay at 0; do Shop.put at 3; do Bank.gift at 1; }`

const sampleText = "module shop ;" +
	" record Order { account : text ; amount : int ; }" +
	" choice Way { no : none ; far : opt Way ; both : Pair ; }" +
	" record More { tags : list opt list text ; amount : int ; by : Way ; account : text ; }" +
	" record Empty { }" +
	" record Pair { a : int ; b : bool ; c : Empty ; }" +
	" service Bank { take pay ( Order ) -> int undo back ; give back ( Order ) -> none ; note look ( More ) -> none undo unlook ; note unlook ( More ) -> none ; give gift ( Order ) -> int ; }" +
	" service Idle { }" +
	" service Shop { give put ( Order ) -> none undo unput ; take unput ( Order ) -> none ; }" +
	" saga one ( Order ) { do Bank . back at 1 ; }" +
	" saga watch ( More ) { do Bank . look at 2 ; do Bank . look at 2 ; do Bank . unlook at 0 ; }" +
	" saga buy ( Order ) { do Bank . pay at 0 ; do Shop . put at 3 ; do Bank . gift at 1 ; }"

const order = "record O { account: text; amount: int; } "

const orderText = "record O { account : text ; amount : int ; }"

func kinds(l ...byte) []api.Sort {
	var t []api.Sort
	for _, k := range l {
		t = append(t, api.Sort{Kind: k})
	}
	return t
}

func named(name string, l ...byte) []api.Sort {
	return append(kinds(l...), api.Sort{Kind: api.TNamed, Name: name})
}

// P14.1

func TestExamples(t *testing.T) {
	says(t, "module m;record R{a:list int;}", "module m ; record R { a : list int ; }")
	says(t, "module m;", "module m ;")
	refused(t, read(t, "module m; record R { a: P; }"), api.ErrType)
	says(t, "module shop; record Order { account: text; amount: int; }", "module shop ; record Order { account : text ; amount : int ; }")
	says(t, sample, sampleText)
}

// The fingerprint is the print of the text, byte by byte.
func TestPrints(t *testing.T) {
	for text, want := range map[string]uint64{
		"module m;":                            0x7578a4ebbe208b33,
		"module m;record R{a:list int;}":       0xe83983317d21580d,
		"module m; // of nothing\n\t":          0x7578a4ebbe208b33,
		"module\tm\r\n;record R{a:list\nint;}": 0xe83983317d21580d,
	} {
		if got, e := Print(read(t, text)); got != want || e != api.OK {
			t.Errorf("%s: %#x, error %d; not %#x", text, got, e, want)
		}
	}
}

func TestNothingIsDeclared(t *testing.T) {
	says(t, "module m; record R { }", "module m ; record R { }")
	says(t, "module m; service R { }", "module m ; service R { }")
	says(t, "module "+strings.Repeat("w", 32)+";", "module "+strings.Repeat("w", 32)+" ;")
	refused(t, read(t, "module m; choice R { }"), api.ErrBottom)
	refused(t, read(t, "module m; saga R(R) { }"), api.ErrMany)
	refused(t, api.Schema{}, api.ErrWord)
	refused(t, api.Schema{Name: "m", Records: make([]api.Record, 1)}, api.ErrWord)
	// R5: a list without elements is nil, or empty.
	empty := api.Schema{Name: "m", Records: []api.Record{{Name: "R", Fields: []api.Field{}}}, Services: []api.Service{{Name: "S", Methods: []api.Method{}}}, Sagas: []api.Saga{}}
	if a := tells(t, empty); a != tells(t, read(t, "module m; record R { } service S { }")) || a.text != "module m ; record R { } service S { }" {
		t.Errorf("%s", short(a))
	}
}

// Records and choices share one list, in their own order; services and sagas stand behind them, wherever they were declared.
func TestOrders(t *testing.T) {
	parts := []string{"record A{account:text;amount:int;}", "choice B{b:int;}", "service C{give e(A)->none;}", "saga D(A){do C.e at 3;}", "record E{}", "saga F(A){do C.e at 0;}"}
	texts := []string{" record A { account : text ; amount : int ; }", " choice B { b : int ; }", " service C { give e ( A ) -> none ; }", " saga D ( A ) { do C . e at 3 ; }", " record E { }", " saga F ( A ) { do C . e at 0 ; }"}
	ranks := []int{1, 1, 2, 3, 1, 3}
	var lay func(row []int)
	seen := 0
	lay = func(row []int) {
		if len(row) == len(parts) {
			seen++
			text, want := "module m;", "module m ;"
			for _, i := range row {
				text += parts[i]
			}
			sorted := slices.Clone(row)
			slices.SortStableFunc(sorted, func(a, b int) int { return ranks[a] - ranks[b] })
			for _, i := range sorted {
				want += texts[i]
			}
			says(t, text, want)
			return
		}
		for i := range parts {
			if !slices.Contains(row, i) {
				lay(append(row[:len(row):len(row)], i))
			}
		}
	}
	lay(nil)
	if seen != 720 {
		t.Errorf("%d orders", seen)
	}
}

func TestRecords(t *testing.T) {
	for _, kind := range []string{"record", "choice"} {
		says(t, "module m; "+kind+" R { a: none; }", "module m ; "+kind+" R { a : none ; }")
		says(t, "module m; "+kind+" R { b: bool; a: list text; R: int; }", "module m ; "+kind+" R { b : bool ; a : list text ; R : int ; }")
		var fields, want strings.Builder
		for i := range 16 {
			fields.WriteString("f" + strconv.Itoa(15-i) + ":text;")
			want.WriteString(" f" + strconv.Itoa(15-i) + " : text ;")
		}
		says(t, "module m; "+kind+" R {"+fields.String()+"}", "module m ; "+kind+" R {"+want.String()+" }")
	}
}

func TestTypesOfFields(t *testing.T) {
	for _, l := range [][]api.Sort{kinds(api.TNone), kinds(api.TBool), kinds(api.TInt), kinds(api.TText), named("E"), named("m"), named("R", api.TOpt)} {
		for n := range 12 {
			for _, about := range []byte{api.TList, api.TOpt} {
				f := append(slices.Repeat(kinds(about), n), l...)
				s := api.Schema{Name: "m", Records: []api.Record{{Name: "E"}, {Name: "m"}, {Name: "R", Fields: []api.Field{{Name: "a", Type: f}}}}}
				if len(f) > 12 {
					refused(t, s, api.ErrType)
					continue
				}
				want := "module m ; record E { } record m { } record R { a :" + strings.Repeat(" "+sortWords[about], n) + sortsSaid(l) + " ; }"
				if got := tells(t, s); got.text != want {
					t.Fatalf("%s; not %s", short(got), want)
				}
			}
		}
	}
}

func TestMethods(t *testing.T) {
	for _, x := range [][2]string{{"give", "take"}, {"take", "give"}, {"note", "note"}} {
		effect, contrary := x[0], x[1]
		for _, result := range []string{"int", "none"} {
			says(t, "module m; "+order+"service S { "+effect+" t(O) -> "+result+"; }",
				"module m ; "+orderText+" service S { "+effect+" t ( O ) -> "+result+" ; }")
			says(t, "module m; "+order+"service S { "+effect+" t(O) -> "+result+" undo u; "+contrary+" u(O) -> none; }",
				"module m ; "+orderText+" service S { "+effect+" t ( O ) -> "+result+" undo u ; "+contrary+" u ( O ) -> none ; }")
		}
	}
}

func TestSteps(t *testing.T) {
	for at := range 4 {
		for n := 1; n <= 8; n++ {
			says(t, "module m; "+order+"service S { note t(O) -> int undo u; note u(O) -> none; } saga g(O) {"+strings.Repeat("do S.t at "+strconv.Itoa(at)+";", n)+"}",
				"module m ; "+orderText+" service S { note t ( O ) -> int undo u ; note u ( O ) -> none ; } saga g ( O ) {"+strings.Repeat(" do S . t at "+strconv.Itoa(at)+" ;", n)+" }")
		}
	}
}

// broken have one of check's rules broken each, in order, from the second one on.
var broken = []struct {
	text string
	e    api.Errno
}{
	{order + "saga g(O) { }", api.ErrMany},
	{"record R { a: int; a: text; }", api.ErrTwice},
	{"record R { a: P; }", api.ErrType},
	{"record R { a: R; }", api.ErrBottom},
	{"record P { account: text; } service S { take t(P) -> int; }", api.ErrEffect},
	{order + "service S { take t(O) -> int undo u; take u(O) -> none; }", api.ErrUndo},
	{order + "service S { take t(O) -> int; } saga g(S) { do S.t at 0; }", api.ErrSaga},
	{order + "service S { take t(O) -> int; } saga g(O) { do S.t at 4; }", api.ErrStep},
	{order + "service S { take t(O) -> int; } saga g(O) { do S.t at 0; do S.t at 1; }", api.ErrUndo},
}

func TestBrokenRules(t *testing.T) {
	for _, x := range broken {
		refused(t, read(t, "module m; "+x.text), x.e)
		s := read(t, "module m; "+x.text)
		s.Name = "a b"
		refused(t, s, api.ErrWord)
	}
}

// One thing of the sample is changed, so that it is not right any more.
func TestSpoiledSample(t *testing.T) {
	for i, x := range []struct {
		e  api.Errno
		do func(s *api.Schema)
	}{
		{api.ErrWord, func(s *api.Schema) { s.Name = "" }},
		{api.ErrWord, func(s *api.Schema) { s.Name = "list" }},
		{api.ErrWord, func(s *api.Schema) { s.Records[3].Name = strings.Repeat("w", 33) }},
		{api.ErrWord, func(s *api.Schema) { s.Records[3].Name = "Empty { } record Full" }},
		{api.ErrWord, func(s *api.Schema) { s.Records[4].Fields[0].Name = "a:int;d" }},
		{api.ErrWord, func(s *api.Schema) { s.Services[1].Name = "" }},
		{api.ErrWord, func(s *api.Schema) { s.Services[0].Methods[4].Name = "give" }},
		{api.ErrWord, func(s *api.Schema) { s.Sagas[2].Name = "\xff" }},
		{api.ErrMany, func(s *api.Schema) { s.Sagas[1].Steps = nil }},
		{api.ErrMany, func(s *api.Schema) {
			s.Services = append(s.Services, make([]api.Service, 70)...)
			rename(s.Services[3:])
		}},
		{api.ErrTwice, func(s *api.Schema) { s.Records = append(s.Records, s.Records[0]) }},
		{api.ErrTwice, func(s *api.Schema) { s.Sagas[0].Name = "Bank" }},
		{api.ErrType, func(s *api.Schema) { s.Records[4].Fields[1].Type = nil }},
		{api.ErrType, func(s *api.Schema) { s.Records[4].Fields[1].Type = kinds(api.TInt, api.TInt) }},
		{api.ErrType, func(s *api.Schema) { s.Records[4].Fields[1].Type = kinds(api.TList) }},
		{api.ErrType, func(s *api.Schema) { s.Records[4].Fields[1].Type[0].Name = "Pair" }},
		{api.ErrType, func(s *api.Schema) { s.Records[4].Fields[1].Type[0].Kind = 8 }},
		{api.ErrType, func(s *api.Schema) { s.Records[4].Fields[1].Type = named("int") }},
		{api.ErrType, func(s *api.Schema) { s.Services[0].Methods[4].Result = api.TBool }},
		{api.ErrType, func(s *api.Schema) { s.Services[0].Methods[4].Result = 0 }},
		{api.ErrBottom, func(s *api.Schema) { s.Records[3].Choice = true }},
		{api.ErrEffect, func(s *api.Schema) { s.Services[0].Methods[4].Effect = "" }},
		{api.ErrEffect, func(s *api.Schema) { s.Services[0].Methods[4].Effect = "Give" }},
		{api.ErrEffect, func(s *api.Schema) { s.Services[0].Methods[4].Arg = "Way" }},
		{api.ErrUndo, func(s *api.Schema) { s.Services[2].Methods[0].Undo = "back" }},
		{api.ErrSaga, func(s *api.Schema) { s.Sagas[0].Arg = "Bank" }},
		{api.ErrStep, func(s *api.Schema) { s.Sagas[0].Steps[0].At = -1 }},
		{api.ErrStep, func(s *api.Schema) { s.Sagas[2].Steps[2].Service = "Idle" }},
		{api.ErrUndo, func(s *api.Schema) { s.Sagas[1].Steps[1].Method = "unlook" }},
	} {
		s := read(t, sample)
		x.do(&s)
		if _, e := check.Check(s); e != x.e {
			t.Errorf("%d: check tells %d", i, e)
		}
		refused(t, s, x.e)
	}
}

func rename(l []api.Service) {
	for i := range l {
		l[i].Name = "s" + strconv.Itoa(i)
	}
}

// sized is a right schema whose text has so many bytes, from some 14000 on to some 94000: its types grow, then its names.
func sized(t *testing.T, n int) api.Schema {
	t.Helper()
	s := api.Schema{Name: "m", Records: make([]api.Record, 60)}
	left := n - len("module m ;")
	var fields []*api.Field
	for i := range s.Records {
		r := &s.Records[i]
		r.Name, r.Fields = "r"+strconv.Itoa(10+i), make([]api.Field, 16)
		left -= len(" record r__ { }")
		for j := range r.Fields {
			r.Fields[j] = api.Field{Name: "f" + strconv.Itoa(10+j), Type: kinds(api.TText)}
			left -= len(" f__ : text ;")
			fields = append(fields, &r.Fields[j])
		}
	}
	for _, f := range fields {
		for len(f.Type) < 12 && left >= 5 {
			f.Type = append(kinds(api.TList), f.Type...)
			left -= 5
		}
	}
	for _, f := range fields {
		more := min(left, 32-len(f.Name))
		f.Name += strings.Repeat("w", more)
		left -= more
	}
	if left != 0 {
		t.Fatalf("%d bytes of %d are left over", left, n)
	}
	return s
}

func TestLongTexts(t *testing.T) {
	for _, n := range []int{60000, 65535, 65536, 65537, 65538, 70000, 75000} {
		s := sized(t, n)
		if n > 65536 {
			refused(t, s, api.ErrLong)
			s.Records[0].Fields[0].Type = nil
			refused(t, s, api.ErrType)
			continue
		}
		a := tells(t, s)
		if a.e != api.OK || len(a.text) != n {
			t.Errorf("%d bytes: %d, error %d", n, len(a.text), a.e)
		}
	}
}

// The byte too much may stand in each part of a text.
func TestOneByteMore(t *testing.T) {
	const tail = "record O{account:text;amount:int;}service S{note t(O)->int undo u;note u(O)->none;}saga g(O){do S.t at 0;}"
	behind := read(t, "module m;"+tail)
	ahead := len(byWords(behind).text) - len("module m ;")
	for i, more := range []func(s *api.Schema){
		func(s *api.Schema) {},
		func(s *api.Schema) { s.Name += "m" },
		func(s *api.Schema) { s.Records[0].Name += "r" },
		func(s *api.Schema) { s.Records[len(s.Records)-2].Fields[15].Name += "f" },
		func(s *api.Schema) { s.Services[0].Methods[0].Name, s.Sagas[0].Steps[0].Method = "t_", "u" },
		func(s *api.Schema) { s.Sagas[0].Name += "g" },
	} {
		s := sized(t, 65536-ahead)
		s.Records = append(s.Records, behind.Records...)
		s.Services, s.Sagas = behind.Services, behind.Sagas
		s.Services = []api.Service{{Name: "S", Methods: slices.Clone(behind.Services[0].Methods)}}
		s.Sagas = []api.Saga{{Name: "g", Arg: "O", Steps: slices.Clone(behind.Sagas[0].Steps)}}
		more(&s)
		if i == 0 {
			if a := tells(t, s); len(a.text) != 65536 {
				t.Errorf("%d bytes, error %d", len(a.text), a.e)
			}
			continue
		}
		refused(t, s, api.ErrLong)
	}
}

// The greatest schema there may be, and ones that are greater than any may be, end.
func TestGreatSchemas(t *testing.T) {
	s := api.Schema{Name: strings.Repeat("m", 32)}
	name := func(i int) string { return strings.Repeat("w", 28) + strconv.Itoa(1000+i) }
	for i := range 64 {
		r := api.Record{Name: name(i)}
		for j := range 16 {
			r.Fields = append(r.Fields, api.Field{Name: name(j), Type: named(name((i+j)%64), slices.Repeat([]byte{api.TList}, 11)...)})
		}
		s.Records = append(s.Records, r)
	}
	refused(t, s, api.ErrLong)
	refused(t, api.Schema{Name: "m", Records: make([]api.Record, 1000000)}, api.ErrWord)
	refused(t, api.Schema{Name: "m", Services: slices.Repeat([]api.Service{{Name: "S"}}, 1000000)}, api.ErrMany)
	refused(t, api.Schema{Name: "m", Records: []api.Record{{Name: "R", Fields: []api.Field{{Name: "a", Type: slices.Repeat(kinds(api.TList), 1000000)}}}}}, api.ErrType)
	refused(t, api.Schema{Name: strings.Repeat("m", 1000000)}, api.ErrWord)
}
