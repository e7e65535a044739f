package idl

import (
	"slices"
	"strings"
	"testing"

	"redress/api"
	"redress/token"
)

// sample has each thing that the grammar knows, and each in more than one way.
const sample = `module shop ;
record Order { account : text ; amount : int ; }
choice Way { no : none ; yes : bool ; far : list opt list Order ; me : Way ; }
service Bank { take pay ( Order ) -> int undo back ; give back ( Order ) -> none ; note look ( Order ) -> int ; }
saga buy ( Order ) { do Bank . pay at 0 ; do Bank . look at 10 ; }
record Empty { }
service None { }
saga idle ( Order ) { }
choice Never { }
record Last { x : opt opt bool ; }`

func sampled() api.Schema {
	return api.Schema{
		Name: "shop",
		Records: []api.Record{
			{Name: "Order", Fields: []api.Field{{Name: "account", Type: sortsOf(api.TText)}, {Name: "amount", Type: sortsOf(api.TInt)}}},
			{Name: "Way", Choice: true, Fields: []api.Field{
				{Name: "no", Type: sortsOf(api.TNone)},
				{Name: "yes", Type: sortsOf(api.TBool)},
				{Name: "far", Type: named("Order", api.TList, api.TOpt, api.TList)},
				{Name: "me", Type: named("Way")},
			}},
			{Name: "Empty"},
			{Name: "Never", Choice: true},
			{Name: "Last", Fields: []api.Field{{Name: "x", Type: sortsOf(api.TOpt, api.TOpt, api.TBool)}}},
		},
		Services: []api.Service{
			{Name: "Bank", Methods: []api.Method{
				{Name: "pay", Arg: "Order", Result: api.TInt, Effect: "take", Undo: "back"},
				{Name: "back", Arg: "Order", Result: api.TNone, Effect: "give"},
				{Name: "look", Arg: "Order", Result: api.TInt, Effect: "note"},
			}},
			{Name: "None"},
		},
		Sagas: []api.Saga{
			{Name: "buy", Arg: "Order", Steps: []api.Step{{Service: "Bank", Method: "pay"}, {Service: "Bank", Method: "look", At: 10}}},
			{Name: "idle", Arg: "Order"},
		},
	}
}

func sortsOf(kinds ...byte) []api.Sort {
	var l []api.Sort
	for _, k := range kinds {
		l = append(l, api.Sort{Kind: k})
	}
	return l
}

func named(name string, kinds ...byte) []api.Sort {
	return append(sortsOf(kinds...), api.Sort{Kind: api.TNamed, Name: name})
}

// P12.1

func TestExamples(t *testing.T) {
	right(t, "module m; record R { a: list opt int; b: S; }", api.Schema{Name: "m", Records: []api.Record{{Name: "R", Fields: []api.Field{
		{Name: "a", Type: sortsOf(api.TList, api.TOpt, api.TInt)}, {Name: "b", Type: named("S")}}}}})
	right(t, "module m; service S { take t(R) -> int undo u; }", api.Schema{Name: "m", Services: []api.Service{{Name: "S", Methods: []api.Method{
		{Name: "t", Arg: "R", Result: api.TInt, Effect: "take", Undo: "u"}}}}})
	right(t, "module m; saga g(R) { do S.t at 2; }", api.Schema{Name: "m", Sagas: []api.Saga{{Name: "g", Arg: "R", Steps: []api.Step{
		{Service: "S", Method: "t", At: 2}}}}})
	right(t, "module shop; record Order { account: text; amount: int; }", api.Schema{Name: "shop", Records: sampled().Records[:1]})
	wrong(t, "record", 0, api.ErrWord)
	wrong(t, "", 0, api.ErrWord)
	wrong(t, "module list;", 7, api.ErrWord)
	wrong(t, "module m; record R { a int }", 23, api.ErrWord)
	typed(t, "list list text", sortsOf(api.TList, api.TList, api.TText), 0, api.OK)
	typed(t, "list", nil, 4, api.ErrWord)
	typed(t, "int int", nil, 4, api.ErrWord)
}

func TestParse(t *testing.T) {
	right(t, sample, sampled())
	right(t, "module m;", api.Schema{Name: "m"})
	right(t, "// a remark\n module\tm\r\n; // another one", api.Schema{Name: "m"})
	right(t, "module "+strings.Repeat("w", 32)+";", api.Schema{Name: strings.Repeat("w", 32)})
	right(t, "module m;record R{}record R{}choice R{}", api.Schema{Name: "m", Records: []api.Record{{Name: "R"}, {Name: "R"}, {Name: "R", Choice: true}}})
	right(t, "module m;saga s(R){do m.m at 999999999;do R.s at 0;}saga s(s){}", api.Schema{Name: "m", Sagas: []api.Saga{
		{Name: "s", Arg: "R", Steps: []api.Step{{Service: "m", Method: "m", At: 999999999}, {Service: "R", Method: "s"}}}, {Name: "s", Arg: "s"}}})
}

// Declarations of several kinds, in each order: each kind keeps its own.
func TestOrders(t *testing.T) {
	parts := []string{"record A { }", "choice B { b : int ; }", "service C { }", "saga D ( d ) { }", "service E { give e ( e ) -> none ; }", "saga F ( f ) { do f . f at 3 ; }"}
	seen := 0
	var lay func(text string, left []string)
	lay = func(text string, left []string) {
		seen++
		parses(t, text, byWords(text))
		for i, p := range left {
			lay(text+p, slices.Delete(slices.Clone(left), i, i+1))
		}
	}
	lay("module m ;", parts)
	if seen != 1957 {
		t.Errorf("%d orders", seen)
	}
	right(t, "module m;"+parts[5]+parts[1]+parts[4]+parts[0]+parts[2]+parts[3], api.Schema{
		Name:     "m",
		Records:  []api.Record{{Name: "B", Choice: true, Fields: []api.Field{{Name: "b", Type: sortsOf(api.TInt)}}}, {Name: "A"}},
		Services: []api.Service{{Name: "E", Methods: []api.Method{{Name: "e", Arg: "e", Result: api.TNone, Effect: "give"}}}, {Name: "C"}},
		Sagas:    []api.Saga{{Name: "F", Arg: "f", Steps: []api.Step{{Service: "f", Method: "f", At: 3}}}, {Name: "D", Arg: "d"}},
	})
}

func TestMethods(t *testing.T) {
	for _, effect := range []string{"give", "take", "note"} {
		for result, kind := range map[string]byte{"int": api.TInt, "none": api.TNone} {
			for behind, undo := range map[string]string{"": "", " undo u": "u", "undo t": "t"} {
				right(t, "module m; service S { "+effect+" t (R) -> "+result+" "+behind+"; }", api.Schema{Name: "m", Services: []api.Service{{Name: "S", Methods: []api.Method{
					{Name: "t", Arg: "R", Result: kind, Effect: effect, Undo: undo}}}}})
			}
		}
		for _, result := range []string{"bool", "text", "list", "opt", "R", "7", ";", "undo", "opt int"} {
			wrong(t, "module m; service S { "+effect+" t(R) -> "+result+"; }", 35, api.ErrWord)
		}
	}
}

// Numbers that no schema that is right could have are read all the same.
func TestMany(t *testing.T) {
	for _, n := range []int{0, 1, 2, 17, 300} {
		fields := make([]api.Field, n)
		methods := make([]api.Method, n)
		steps := make([]api.Step, n)
		for i := range n {
			fields[i] = api.Field{Name: "a", Type: sortsOf(api.TBool)}
			methods[i] = api.Method{Name: "a", Arg: "b", Result: api.TNone, Effect: "note"}
			steps[i] = api.Step{Service: "a", Method: "b", At: 100 + i}
		}
		text := "module m; record R { " + strings.Repeat("a: bool;", n) + "} service S {" + strings.Repeat("note a(b) -> none;", n) + "} saga g(R) {"
		for i := range n {
			text += "do a.b at " + string([]byte{'1' + byte(i/100), '0' + byte(i/10%10), '0' + byte(i%10)}) + ";"
		}
		right(t, text+"}", api.Schema{Name: "m", Records: []api.Record{{Name: "R", Fields: fields}}, Services: []api.Service{{Name: "S", Methods: methods}}, Sagas: []api.Saga{{Name: "g", Arg: "R", Steps: steps}}})
		wrong(t, text, len(text), api.ErrWord)
	}
}

func TestWrongWords(t *testing.T) {
	for _, x := range []struct {
		text string
		at   int
	}{
		{"Module m;", 0}, {"m", 0}, {"7", 0}, {";", 0}, {"; module m;", 0}, {"record R { } module m;", 0},
		{"module", 6}, {"module m", 8}, {"module 7;", 7}, {"module ;", 7}, {"module m m;", 9}, {"module m:", 8}, {"module module;", 7},
		{"module m;;", 9}, {"module m; m", 10}, {"module m; Record R { }", 10}, {"module m; module n;", 10}, {"module m; }", 10}, {"module m; 1", 10},
		{"module m; record { }", 17}, {"module m; record R ( )", 19}, {"module m; record R } {", 19}, {"module m; record R { }}", 22}, {"module m; record R { };", 22},
		{"module m; record R { a: int }", 28}, {"module m; record R { a: ; }", 24}, {"module m; record R { a: list; }", 28}, {"module m; record R { a: list }", 29},
		{"module m; record R { a: int int; }", 28}, {"module m; record R { a: int list; }", 28}, {"module m; record R { a: S list; }", 26}, {"module m; record R { a: none, }", 28},
		{"module m; record R { list: int; }", 21}, {"module m; record R { int; }", 21}, {"module m; record R { a: 7; }", 24}, {"module m; record R { 7: int; }", 21},
		{"module m; record R { a: int; record S { }", 29}, {"module m; choice R { a: int; ; }", 29}, {"module m; choice R { { } }", 21}, {"module m; choice choice { }", 17},
		{"module m; record R { a: record; }", 24}, {"module m; record R { a: undo; }", 24}, {"module m; record R { a: (int); }", 24}, {"module m; record R { a. int; }", 22},
		{"module m; service S(R) { }", 19}, {"module m; service S { t(R) -> int; }", 22}, {"module m; service S { take give(R) -> int; }", 27}, {"module m; service S { take t R -> int; }", 29},
		{"module m; service S { take t() -> int; }", 29}, {"module m; service S { take t(int) -> int; }", 29}, {"module m; service S { take t(R, R) -> int; }", 30}, {"module m; service S { take t(R); }", 31},
		{"module m; service S { take t(R) : int; }", 32}, {"module m; service S { take t(R) -> int undo; }", 43}, {"module m; service S { take t(R) -> int undo u v; }", 46}, {"module m; service S { take t(R) -> undo u; }", 35},
		{"module m; service S { take t(R) -> int undo undo; }", 44}, {"module m; service S { take t(R) -> int undo 1; }", 44}, {"module m; service S { take t(R) -> int; undo u; }", 40}, {"module m; service S { do S.t at 1; }", 22},
		{"module m; saga g { }", 17}, {"module m; saga g() { }", 17}, {"module m; saga g(R) ; ", 20}, {"module m; saga g(R) { S.t at 1; }", 22}, {"module m; saga g(R) { do t at 1; }", 27}, {"module m; saga g(R) { do S.t; }", 28},
		{"module m; saga g(R) { do S.t at x; }", 32}, {"module m; saga g(R) { do S.t at at; }", 32}, {"module m; saga g(R) { do S.t at ; }", 32}, {"module m; saga g(R) { do S.t at 1 2; }", 34}, {"module m; saga g(R) { do S->t at 1; }", 26}, {"module m; saga g(R) { do 1.t at 1; }", 25}, {"module m; saga g(R) { do S.1 at 1; }", 27}, {"module m; saga g(R) { take S.t at 1; }", 22}, {"module m; saga g(R) { do S.t at 1 }", 34}, {"module m; saga g(int) { }", 17}, {"module m; saga g(R) { do S.t at 1; } do", 37},
	} {
		wrong(t, x.text, x.at, api.ErrWord)
	}
}

// ends are what may stand at a text's end that is no token.
var ends = []string{"", " ", "\t\n", "// } ;", "\n//\n  ", "//\x00 \xff - 01"}

// A text that ends behind each of its tokens is told by its length, whatever blanks and remarks are there.
func TestEndsTooEarly(t *testing.T) {
	l, _, _ := token.All(sample)
	complete := 0
	for i := range len(l) + 1 {
		for _, end := range ends {
			text := joined(l[:i]) + end
			if i == 0 {
				text = end
			}
			want := byWords(text)
			if want.e == api.OK {
				complete++
			} else if want.at != len(text) {
				t.Fatalf("%.200q: place %d", text, want.at)
			}
			parses(t, text, want)
		}
	}
	if complete != 10*len(ends) {
		t.Errorf("%d complete ones", complete)
	}
	for _, end := range ends {
		wrong(t, end, len(end), api.ErrWord)
		wrong(t, "module m; record R {"+end, 20+len(end), api.ErrWord)
		right(t, "module m;"+end, api.Schema{Name: "m"})
	}
}

// Each token at each place: put there, and in the place of the one that was there; and each one left out.
func TestEachTokenAtEachPlace(t *testing.T) {
	if len(words) != 28 || len(keywords) != 17 {
		t.Fatalf("%d words, %d keywords", len(words), len(keywords))
	}
	l, _, _ := token.All(sample)
	for i := range len(l) + 1 {
		ahead, behind := joined(l[:i])+" ", " "+joined(l[i:])
		for _, w := range words {
			parses(t, ahead+w+behind, byWords(ahead+w+behind))
			parses(t, ahead+w, byWords(ahead+w))
			if i < len(l) {
				changed := ahead + w + " " + joined(l[i+1:])
				parses(t, changed, byWords(changed))
			}
		}
		if i < len(l) {
			less := ahead + joined(l[i+1:])
			parses(t, less, byWords(less))
			swapped := joined(slices.Concat(l[:i], l[i+1:min(i+2, len(l))], l[i:i+1], l[min(i+2, len(l)):]))
			parses(t, swapped, byWords(swapped))
		}
	}
}

// rows goes over all rows of tokens behind a beginning that may go on, with at most n of them, and one more that is wrong.
func rows(text string, s *shape, n int, f func(text string)) {
	f(text)
	if n == 0 {
		return
	}
	for _, w := range words {
		longer := strings.TrimPrefix(text+" "+w, " ")
		if d := s.behind(tokenOf(w)); d != nil {
			rows(longer, d, n-1, f)
		} else {
			f(longer)
		}
	}
}

func TestParseOfEveryShortText(t *testing.T) {
	n := 0
	rows("", schemas, 11, func(text string) {
		n++
		parses(t, text, byWords(text))
	})
	for _, ahead := range []string{"module m ; service S { take t (", "module m ; saga g ( R ) {"} {
		l, _, _ := token.All(ahead)
		s := schemas
		for _, x := range l {
			s = s.behind(x)
		}
		rows(ahead, s, 9, func(text string) {
			n++
			parses(t, text, byWords(text))
		})
	}
	if n < 8000 {
		t.Errorf("%d texts", n)
	}
}

// token's error is told ahead of any ErrWord, wherever it stands.
func TestTokensErrorsFirst(t *testing.T) {
	faults := []struct {
		text string
		e    api.Errno
	}{{"-", api.ErrRune}, {"/", api.ErrRune}, {"_a", api.ErrRune}, {"\x80", api.ErrRune}, {"01", api.ErrRune}, {"1234567890", api.ErrLong}, {strings.Repeat("w", 33), api.ErrLong}}
	l, _, _ := token.All(sample)
	for _, f := range faults {
		for i := range len(l) + 1 {
			ahead := joined(l[:i]) + " "
			wrong(t, ahead+f.text+" "+joined(l[i:]), len(ahead), f.e)
			wrong(t, "record "+ahead+f.text+" ; ; -", 7+len(ahead), f.e)
		}
		wrong(t, "m m "+f.text, 4, f.e)
		wrong(t, f.text, 0, f.e)
		typed(t, "int int "+f.text, nil, 8, f.e)
		typed(t, f.text+" int", nil, 0, f.e)
		typed(t, ";\n"+f.text, nil, 2, f.e)
		typed(t, "int // "+f.text, sortsOf(api.TInt), 0, api.OK)
	}
}

func TestLongTexts(t *testing.T) {
	fill := func(s string, n int) string { return s + strings.Repeat(" ", n-len(s)) }
	right(t, fill(sample, 65536), sampled())
	wrong(t, fill(sample, 65537), 0, api.ErrLong)
	wrong(t, fill("record", 65536), 0, api.ErrWord)
	wrong(t, fill("module", 65536), 65536, api.ErrWord)
	wrong(t, fill("module", 65537), 0, api.ErrLong)
	wrong(t, fill("module -", 65537), 0, api.ErrLong)
	typed(t, fill("int", 65536), sortsOf(api.TInt), 0, api.OK)
	typed(t, fill("list", 65536), nil, 65536, api.ErrWord)
	typed(t, fill("int", 65537), nil, 0, api.ErrLong)
	many := strings.Repeat("record R{}", 6552)
	if s, at, e := Parse("module m;" + many); len(s.Records) != 6552 || at != 0 || e != api.OK {
		t.Errorf("%d records, place %d, error %d", len(s.Records), at, e)
	}
	for _, s := range []string{"module m;record R{" + strings.Repeat("a:int;", 10000) + "}", "module m;saga g(R){" + strings.Repeat("do S.t at 1;", 5000) + "}", "module m;" + strings.Repeat("record ", 9000), strings.Repeat("{", 65536), strings.Repeat("module ", 9000)} {
		parses(t, s, byWords(s))
	}
}

// P12.2

func TestType(t *testing.T) {
	for word, kind := range map[string]byte{"none": api.TNone, "bool": api.TBool, "int": api.TInt, "text": api.TText} {
		typed(t, word, sortsOf(kind), 0, api.OK)
		typed(t, "opt "+word, sortsOf(api.TOpt, kind), 0, api.OK)
		typed(t, "// \n list\topt\n"+word+" //", sortsOf(api.TList, api.TOpt, kind), 0, api.OK)
		typed(t, word+" ;", nil, len(word)+1, api.ErrWord)
		typed(t, word+" list", nil, len(word)+1, api.ErrWord)
		typed(t, word+"\n"+word, nil, len(word)+1, api.ErrWord)
		typed(t, word+"// "+word, sortsOf(kind), 0, api.OK)
	}
	typed(t, "S", named("S"), 0, api.OK)
	typed(t, "list List", named("List", api.TList), 0, api.OK)
	typed(t, "opt list "+strings.Repeat("w", 32), named(strings.Repeat("w", 32), api.TOpt, api.TList), 0, api.OK)
	typed(t, "S S", nil, 2, api.ErrWord)
	typed(t, "list;", nil, 4, api.ErrWord)
	typed(t, "list record", nil, 5, api.ErrWord)
	typed(t, "opt 7", nil, 4, api.ErrWord)
	typed(t, "module m;", nil, 0, api.ErrWord)
	typed(t, "(int)", nil, 0, api.ErrWord)
	typed(t, "Int", named("Int"), 0, api.OK)
	for _, end := range ends {
		typed(t, end, nil, len(end), api.ErrWord)
		typed(t, "list opt"+end, nil, 8+len(end), api.ErrWord)
		typed(t, "list opt int"+end, sortsOf(api.TList, api.TOpt, api.TInt), 0, api.OK)
	}
}

func TestDeepTypes(t *testing.T) {
	for _, n := range []int{1, 11, 12, 13, 100, 13106} {
		ahead := slices.Repeat(sortsOf(api.TList), n)
		text := strings.Repeat("list ", n)
		typed(t, text+"int", append(slices.Clone(ahead), api.Sort{Kind: api.TInt}), 0, api.OK)
		typed(t, text+"s", append(slices.Clone(ahead), api.Sort{Kind: api.TNamed, Name: "s"}), 0, api.OK)
		typed(t, text, nil, len(text), api.ErrWord)
		typed(t, text+";", nil, len(text), api.ErrWord)
	}
	typed(t, strings.Repeat("opt list ", 7000)+"int", append(slices.Repeat(sortsOf(api.TOpt, api.TList), 7000), api.Sort{Kind: api.TInt}), 0, api.OK)
}

func TestTypeOfEveryShortText(t *testing.T) {
	n := 0
	var longer func(text string, left int)
	longer = func(text string, left int) {
		n++
		typedByWords(t, text)
		if left > 0 {
			for _, w := range words {
				longer(text+" "+w, left-1)
			}
		}
	}
	longer("", 3)
	rows("", types, 7, func(text string) {
		n++
		typedByWords(t, text)
	})
	if n < 30000 {
		t.Errorf("%d texts", n)
	}
}

// A field's type is read as Type reads it.
func TestTypesOfFields(t *testing.T) {
	rows("", types, 4, func(text string) {
		if strings.HasSuffix(text, ";") {
			return // that ends the field's type
		}
		l, at, e := Type(text)
		ahead, behind := "module m; record R { a: ", "; }"
		s, place, fault := Parse(ahead + text + behind)
		switch {
		case e == api.OK:
			if fault != api.OK || !slices.Equal(s.Records[0].Fields[0].Type, l) {
				t.Fatalf("%q: %v, error %d", text, s, fault)
			}
		case fault != api.ErrWord || place != len(ahead)+at:
			t.Fatalf("%q: place %d, error %d", text, place, fault)
		}
	})
}

// R3: what was asked ahead is no matter.
func TestAnswersTheSameAgain(t *testing.T) {
	texts := []string{sample, "module m;", "", "record", "module m; record R { a: int; } record", "module -", "module m; saga g(R) { do S.t at 2; }"}
	for _, a := range texts {
		for _, b := range texts {
			want := byWords(b)
			asked(a)
			Type(a)
			parses(t, b, want)
		}
	}
}
