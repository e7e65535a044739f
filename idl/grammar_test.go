package idl

import (
	"fmt"
	"regexp"
	"slices"
	"strings"
	"testing"

	"redress/api"
	"redress/token"
)

// grammar is the chapter's, to the letter.
const grammar = `
    schema  : "module" name ";" { record | choice | service | saga }
    record  : "record" name "{" { field } "}"
    choice  : "choice" name "{" { field } "}"
    field   : name ":" type ";"
    type    : { "list" | "opt" } ( "none" | "bool" | "int" | "text" | name )
    service : "service" name "{" { method } "}"
    method  : ( "give" | "take" | "note" ) name "(" name ")" "->" ( "int" | "none" ) [ "undo" name ] ";"
    saga    : "saga" name "(" name ")" "{" { "do" name "." name "at" number ";" } "}"
`

// shape is what a row of tokens may be: nil is none at all.
type shape struct {
	op   byte   // 0: the empty row; w: one word; & and |: a, then b; a, or b; *: any number of a
	word string // quoted, or name, or number
	a, b *shape
}

func both(a, b *shape) *shape {
	switch {
	case a == nil || b == nil:
		return nil
	case a.op == 0:
		return b
	case b.op == 0:
		return a
	}
	return &shape{op: '&', a: a, b: b}
}

func either(a, b *shape) *shape {
	switch {
	case a == nil:
		return b
	case b == nil:
		return a
	}
	return &shape{op: '|', a: a, b: b}
}

// mayEnd says whether the empty row is one.
func (s *shape) mayEnd() bool {
	switch s.op {
	case 'w':
		return false
	case '&':
		return s.a.mayEnd() && s.b.mayEnd()
	case '|':
		return s.a.mayEnd() || s.b.mayEnd()
	}
	return true
}

// behind is what may stand behind a token.
func (s *shape) behind(t api.Token) *shape {
	switch s.op {
	case 'w':
		if fits(s.word, t) {
			return &shape{}
		}
	case '&':
		d := both(s.a.behind(t), s.b)
		if s.a.mayEnd() {
			d = either(d, s.b.behind(t))
		}
		return d
	case '|':
		return either(s.a.behind(t), s.b.behind(t))
	case '*':
		return both(s.a.behind(t), s)
	}
	return nil
}

func fits(word string, t api.Token) bool {
	switch word {
	case "name":
		return t.Kind == api.KWord && !slices.Contains(keywords, t.Text)
	case "number":
		return t.Kind == api.KNumber
	}
	return word == `"`+t.Text+`"`
}

// rules reads the grammar's lines.
type rules struct {
	lines map[string][]string
	left  []string
}

// shapeOf is what the grammar says of one of its words.
func shapeOf(word string) *shape {
	r := &rules{lines: map[string][]string{}}
	for _, line := range strings.Split(strings.TrimSpace(grammar), "\n") {
		words := strings.Fields(line)
		r.lines[words[0]] = words[2:]
	}
	return r.ruled(word)
}

func (r *rules) ruled(word string) *shape {
	line := r.lines[word]
	if line == nil {
		return &shape{op: 'w', word: word}
	}
	before := r.left
	r.left = line
	s := r.choices()
	if len(r.left) > 0 {
		panic("the grammar's line " + word)
	}
	r.left = before
	return s
}

func (r *rules) choices() *shape {
	s := r.row()
	for len(r.left) > 0 && r.left[0] == "|" {
		r.left = r.left[1:]
		s = either(s, r.row())
	}
	return s
}

func (r *rules) row() *shape {
	s := &shape{}
	for len(r.left) > 0 && !strings.Contains("|)]}", r.left[0]) {
		word := r.left[0]
		r.left = r.left[1:]
		part := &shape{}
		switch word {
		case "{":
			part = &shape{op: '*', a: r.choices()}
			r.left = r.left[1:]
		case "[":
			part = either(part, r.choices())
			r.left = r.left[1:]
		case "(":
			part = r.choices()
			r.left = r.left[1:]
		default:
			part = r.ruled(word)
		}
		s = both(s, part)
	}
	return s
}

// tokenOf is the token that a text is, as far as a shape asks.
func tokenOf(text string) api.Token {
	switch {
	case text[0] >= '0' && text[0] <= '9':
		return api.Token{Kind: api.KNumber, Text: text}
	case inWord(text[0]):
		return api.Token{Kind: api.KWord, Text: text}
	}
	return api.Token{Kind: api.KSign, Text: text}
}

var schemas, types = shapeOf("schema"), shapeOf("type")

// faultOf is the fault of a text that is to have a shape, and its tokens, if there is none.
func faultOf(text string, s *shape) ([]api.Token, int, api.Errno) {
	l, at, e := token.All(text)
	if e != api.OK {
		return nil, at, e
	}
	for _, t := range l {
		if s = s.behind(t); s == nil {
			return nil, t.At, api.ErrWord
		}
	}
	if !s.mayEnd() {
		return nil, len(text), api.ErrWord
	}
	return l, 0, api.OK
}

// what a right text's tokens say, one blank between two.
var (
	asModule  = regexp.MustCompile(`^module (\w+) ;`)
	asRecord  = regexp.MustCompile(`(record|choice) (\w+) \{ (.*?)\}`)
	asField   = regexp.MustCompile(`(\w+) : ([\w ]+) ;`)
	asService = regexp.MustCompile(`service (\w+) \{ (.*?)\}`)
	asMethod  = regexp.MustCompile(`(give|take|note) (\w+) \( (\w+) \) -> (int|none) (?:undo (\w+) )?;`)
	asSaga    = regexp.MustCompile(`saga (\w+) \( (\w+) \) \{ (.*?)\}`)
	asStep    = regexp.MustCompile(`do (\w+) \. (\w+) at (\d+) ;`)
)

func joined(l []api.Token) string {
	var words []string
	for _, t := range l {
		words = append(words, t.Text)
	}
	return strings.Join(words, " ")
}

// sortsSaid are the sorts that a type's words say.
func sortsSaid(words string) []api.Sort {
	kinds := map[string]byte{"none": 1, "bool": 2, "int": 3, "text": 4, "list": 5, "opt": 6}
	var l []api.Sort
	for _, w := range strings.Fields(words) {
		if kinds[w] == 0 {
			l = append(l, api.Sort{Kind: 7, Name: w})
		} else {
			l = append(l, api.Sort{Kind: kinds[w]})
		}
	}
	return l
}

func schemaSaid(words string) api.Schema {
	s := api.Schema{Name: asModule.FindStringSubmatch(words)[1]}
	for _, m := range asRecord.FindAllStringSubmatch(words, -1) {
		r := api.Record{Choice: m[1] == "choice", Name: m[2]}
		for _, f := range asField.FindAllStringSubmatch(m[3], -1) {
			r.Fields = append(r.Fields, api.Field{Name: f[1], Type: sortsSaid(f[2])})
		}
		s.Records = append(s.Records, r)
	}
	for _, m := range asService.FindAllStringSubmatch(words, -1) {
		v := api.Service{Name: m[1]}
		for _, f := range asMethod.FindAllStringSubmatch(m[2], -1) {
			v.Methods = append(v.Methods, api.Method{Effect: f[1], Name: f[2], Arg: f[3], Result: map[string]byte{"int": 3, "none": 1}[f[4]], Undo: f[5]})
		}
		s.Services = append(s.Services, v)
	}
	for _, m := range asSaga.FindAllStringSubmatch(words, -1) {
		g := api.Saga{Name: m[1], Arg: m[2]}
		for _, f := range asStep.FindAllStringSubmatch(m[3], -1) {
			n := 0
			for _, digit := range f[3] {
				n = n*10 + int(digit-'0')
			}
			g.Steps = append(g.Steps, api.Step{Service: f[1], Method: f[2], At: n})
		}
		s.Sagas = append(s.Sagas, g)
	}
	return s
}

// parsed is what Parse answers.
type parsed struct {
	s  api.Schema
	at int
	e  api.Errno
}

func asked(text string) parsed {
	s, at, e := Parse(text)
	return parsed{s, at, e}
}

// byWords is Parse as the chapter words it.
func byWords(text string) parsed {
	l, at, e := faultOf(text, schemas)
	if e != api.OK {
		return parsed{at: at, e: e}
	}
	return parsed{s: schemaSaid(joined(l))}
}

func (p parsed) same(q parsed) bool {
	return p.at == q.at && p.e == q.e && sameSchema(p.s, q.s)
}

func sameSchema(a, b api.Schema) bool {
	return a.Name == b.Name && slices.EqualFunc(a.Records, b.Records, sameRecord) &&
		slices.EqualFunc(a.Services, b.Services, func(a, b api.Service) bool {
			return a.Name == b.Name && slices.Equal(a.Methods, b.Methods)
		}) &&
		slices.EqualFunc(a.Sagas, b.Sagas, func(a, b api.Saga) bool {
			return a.Name == b.Name && a.Arg == b.Arg && slices.Equal(a.Steps, b.Steps)
		})
}

func sameRecord(a, b api.Record) bool {
	return a.Name == b.Name && a.Choice == b.Choice && slices.EqualFunc(a.Fields, b.Fields, func(a, b api.Field) bool {
		return a.Name == b.Name && slices.Equal(a.Type, b.Type)
	})
}

// short is the beginning of what a thing looks like.
func short(x any) string { return fmt.Sprintf("%.300s", fmt.Sprintf("%+v", x)) }

// parses says where Parse answers something else.
func parses(t *testing.T, text string, want parsed) {
	t.Helper()
	if got := asked(text); !got.same(want) {
		t.Fatalf("Parse of %d bytes, %.300q: %s; not %s", len(text), text, short(got), short(want))
	}
}

// right says where Parse answers something else of a text that is read.
func right(t *testing.T, text string, want api.Schema) {
	t.Helper()
	parses(t, text, parsed{s: want})
}

func wrong(t *testing.T, text string, at int, e api.Errno) {
	t.Helper()
	parses(t, text, parsed{at: at, e: e})
}

// typed says where Type answers something else.
func typed(t *testing.T, text string, want []api.Sort, at int, e api.Errno) {
	t.Helper()
	if l, a, x := Type(text); !slices.Equal(l, want) || a != at || x != e {
		t.Fatalf("Type of %d bytes, %.300q: %s, place %d, error %d; not %s, place %d, error %d", len(text), text, short(l), a, x, short(want), at, e)
	}
}

func typedByWords(t *testing.T, text string) {
	t.Helper()
	l, at, e := faultOf(text, types)
	typed(t, text, sortsSaid(joined(l)), at, e)
}

// words are one token of each text that the grammar has, of the one sign that it has not, a name and a number.
var words = theWords()

func theWords() []string {
	var l []string
	for _, w := range strings.Fields(grammar) {
		if text, ok := strings.CutPrefix(w, `"`); ok && !slices.Contains(l, text[:len(text)-1]) {
			l = append(l, text[:len(text)-1])
		}
	}
	return append(l, ",", "n", "7")
}

// keywords are the words that the grammar has in quotes: all that there are.
var keywords = slices.DeleteFunc(theWords(), func(w string) bool { return len(w) < 2 || w == "->" })
