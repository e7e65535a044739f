package prints

import (
	"fmt"
	"hash/fnv"
	"regexp"
	"slices"
	"strings"
	"testing"
	"text/template"

	"redress/api"
	"redress/check"
	"redress/idl"
	"redress/token"
)

// asWorded is a right schema's text as the chapter words it: a blank ahead of each token but the first one.
var asWorded = template.Must(template.New("").Funcs(template.FuncMap{"type": sortsSaid, "result": resultSaid}).Parse(
	`module {{.Name}} ;
{{- range .Records}} {{if .Choice}}choice{{else}}record{{end}} {{.Name}} {
{{- range .Fields}} {{.Name}} :{{type .Type}} ;{{end}} }{{end}}
{{- range .Services}} service {{.Name}} {
{{- range .Methods}} {{.Effect}} {{.Name}} ( {{.Arg}} ) -> {{result .Result}}{{if ne .Undo ""}} undo {{.Undo}}{{end}} ;{{end}} }{{end}}
{{- range .Sagas}} saga {{.Name}} ( {{.Arg}} ) {
{{- range .Steps}} do {{.Service}} . {{.Method}} at {{.At}} ;{{end}} }{{end}}`))

var sortWords = map[byte]string{api.TNone: "none", api.TBool: "bool", api.TInt: "int", api.TText: "text", api.TList: "list", api.TOpt: "opt"}

// sortsSaid has a blank ahead of each sort.
func sortsSaid(t []api.Sort) string {
	var b strings.Builder
	for _, s := range t {
		b.WriteString(" " + sortWords[s.Kind] + s.Name)
	}
	return b.String()
}

func resultSaid(kind byte) string { return sortWords[kind] }

var isName = regexp.MustCompile(`^[a-zA-Z][a-zA-Z0-9_]{0,31}$`)

var keywords = strings.Fields("module record choice service saga do at undo give take note none bool int text list opt")

func nameByWords(s string) bool {
	return len(s) <= 40 && isName.MatchString(s) && !slices.Contains(keywords, s)
}

// typeByWords is Type as the chapter words it.
func typeByWords(t []api.Sort) string {
	if len(t) < 1 || len(t) > 12 {
		return ""
	}
	for i, s := range t {
		about, last := s.Kind == api.TList || s.Kind == api.TOpt, i == len(t)-1
		switch {
		case s.Kind == api.TNamed && last:
			if !nameByWords(s.Name) {
				return ""
			}
		case about == last, s.Kind < api.TNone, s.Kind > api.TOpt, s.Name != "":
			return ""
		}
	}
	return sortsSaid(t)[1:]
}

// answer is what Text and Print answer.
type answer struct {
	text  string
	e     api.Errno
	print uint64
	of    api.Errno // Print's
}

func asked(s api.Schema) answer {
	var a answer
	a.text, a.e = Text(s)
	a.print, a.of = Print(s)
	return a
}

// byWords is what they are to answer: what is right is layer 13's.
func byWords(s api.Schema) answer {
	if _, e := check.Check(s); e != api.OK {
		return answer{e: e, of: e}
	}
	var b strings.Builder
	if e := asWorded.Execute(&b, s); e != nil {
		panic(e)
	}
	if b.Len() > 65536 {
		return answer{e: api.ErrLong, of: api.ErrLong}
	}
	h := fnv.New64a()
	h.Write([]byte(b.String()))
	return answer{b.String(), api.OK, h.Sum64(), api.OK}
}

// tells says where Text or Print answers something else than the words, or what is told is not the schema's one text.
func tells(t *testing.T, s api.Schema) answer {
	t.Helper()
	got, want := asked(s), byWords(s)
	if got != want {
		t.Fatalf("of %s: %s; not %s", short(s), short(got), short(want))
	}
	if got.e == api.OK {
		isOne(t, s, got.text)
	}
	return got
}

// isOne says where a text is not read as a schema, or is not just its tokens with one blank between two.
func isOne(t *testing.T, s api.Schema, text string) {
	t.Helper()
	if back, at, e := idl.Parse(text); e != api.OK || !same(back, s) {
		t.Fatalf("%s: error %d at %d, %s; not %s", short(text), e, at, short(back), short(s))
	}
	l, _, _ := token.All(text)
	if spelt, e := token.Spell(l); e != api.OK || spelt != text {
		t.Fatalf("%s: its tokens are %s", short(text), short(spelt))
	}
}

// refused says whether both answer an error, and nothing else.
func refused(t *testing.T, s api.Schema, e api.Errno) {
	t.Helper()
	if got, want := asked(s), (answer{e: e, of: e}); got != want {
		t.Fatalf("of %s: %s; not error %d alone", short(s), short(got), e)
	}
	tells(t, s)
}

// says says whether a text declares what has that one text.
func says(t *testing.T, text, want string) {
	t.Helper()
	if got := tells(t, read(t, text)); got.text != want || got.e != api.OK {
		t.Fatalf("of %s: %s; not %s", short(text), short(got), short(want))
	}
}

// typed says where Type answers something else than the words, or than want.
func typed(t *testing.T, l []api.Sort, want string) {
	t.Helper()
	if got, worded := Type(l), typeByWords(l); got != want || got != worded {
		t.Fatalf("Type of %s: %s; not %s, by the words %s", short(l), short(got), short(want), short(worded))
	}
}

func read(t *testing.T, text string) api.Schema {
	t.Helper()
	s, at, e := idl.Parse(text)
	if e != api.OK {
		t.Fatalf("%s: error %d at %d", short(text), e, at)
	}
	return s
}

func same(a, b api.Schema) bool {
	return a.Name == b.Name && slices.EqualFunc(a.Records, b.Records, sameRecord) &&
		slices.EqualFunc(a.Services, b.Services, func(a, b api.Service) bool {
			return a.Name == b.Name && slices.Equal(a.Methods, b.Methods)
		}) &&
		slices.EqualFunc(a.Sagas, b.Sagas, func(a, b api.Saga) bool {
			return a.Name == b.Name && a.Arg == b.Arg && slices.Equal(a.Steps, b.Steps)
		})
}

func sameRecord(a, b api.Record) bool {
	return a.Name == b.Name && a.Choice == b.Choice && slices.EqualFunc(a.Fields, b.Fields, sameField)
}

func sameField(a, b api.Field) bool { return a.Name == b.Name && slices.Equal(a.Type, b.Type) }

// short is the beginning of what a thing looks like.
func short(x any) string { return fmt.Sprintf("%.500s", fmt.Sprintf("%+v", x)) }
