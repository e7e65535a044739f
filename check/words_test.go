package check

import (
	"cmp"
	"regexp"
	"slices"
	"strconv"
	"strings"
	"testing"

	"redress/api"
)

// The chapter's words, slowly: each place is asked for each rule, and the first breach is what must be told.

// breach is a rule that is broken at a place: its declaration's number (-1: the schema's own), its part's (-1: the declaration's own).
type breach struct {
	rule, declaration, part int
	where                   string
	e                       api.Errno
}

var (
	isName   = regexp.MustCompile(`^[A-Za-z][A-Za-z0-9_]{0,31}$`)
	keywords = strings.Fields("module record choice service saga do at undo give take note none bool int text list opt")
	rightly  = regexp.MustCompile(`^[lo]{0,11}[nbitR]$`)
)

func nameByWords(s string) bool {
	return len(s) <= 40 && isName.MatchString(s) && !slices.Contains(keywords, s)
}

// shape is a type, a letter a sort: R of a record or choice that there is, ? of what may stand nowhere.
func shape(s api.Schema, t []api.Sort) string {
	var b strings.Builder
	for _, x := range t {
		switch {
		case x.Kind >= api.TNone && x.Kind <= api.TOpt && x.Name == "":
			b.WriteByte("-nbitlo"[x.Kind])
		case x.Kind == api.TNamed && slices.ContainsFunc(s.Records, func(r api.Record) bool { return r.Name == x.Name }):
			b.WriteByte('R')
		default:
			b.WriteByte('?')
		}
	}
	return b.String()
}

// valuedBy says whether a record or choice has a value, if the records and choices whose numbers are bits of set have one, and no other.
func valuedBy(s api.Schema, set int, r api.Record) bool {
	some, all := false, true
	for _, f := range r.Fields {
		has := true
		if len(f.Type) > 0 && f.Type[0].Kind == api.TNamed {
			i := slices.IndexFunc(s.Records, func(r api.Record) bool { return r.Name == f.Type[0].Name })
			has = i >= 0 && set>>i&1 == 1
		}
		some, all = some || has, all && has
	}
	return r.Choice && some || !r.Choice && all
}

// least is the least set that leaves nothing out that has a value by it: what all such sets have in common.
func least(s api.Schema) int {
	common := 1<<len(s.Records) - 1
	for set := range 1 << len(s.Records) {
		closed := true
		for i, r := range s.Records {
			closed = closed && (set>>i&1 == 1 || !valuedBy(s, set, r))
		}
		if closed {
			common &= set
		}
	}
	return common
}

func orderByWords(s api.Schema, name string) bool {
	for _, r := range s.Records {
		if r.Name == name && !r.Choice {
			got := map[string]string{}
			for _, f := range r.Fields {
				got[f.Name] = shape(s, f.Type)
			}
			return got["account"] == "t" && got["amount"] == "i"
		}
	}
	return false
}

func methodByWords(s api.Schema, service, name string) (api.Method, bool) {
	for _, v := range s.Services {
		if v.Name == service {
			for _, m := range v.Methods {
				if m.Name == name {
					return m, true
				}
			}
			break
		}
	}
	return api.Method{}, false
}

// teller gathers breaches at a place.
type teller struct {
	l                 []breach
	declaration, part int
	where             string
}

func (t *teller) tell(broken bool, rule int, e api.Errno) {
	if broken {
		t.l = append(t.l, breach{rule, t.declaration, t.part, t.where, e})
	}
}

// word tells what is no name, at a place of its own.
func (t *teller) word(name string) {
	where := t.where
	t.where = name
	t.tell(!nameByWords(name), 1, api.ErrWord)
	t.where = where
}

// begin goes to the next declaration.
func (t *teller) begin(name string, ahead *[]string) {
	t.declaration, t.part, t.where = t.declaration+1, -1, name
	t.word(name)
	t.tell(slices.Contains(*ahead, name), 3, api.ErrTwice)
	*ahead = append(*ahead, name)
}

// goOn goes to the next part.
func (t *teller) goOn(declaration, part string) {
	t.part, t.where = t.part+1, declaration+"."+part
}

func recordByWords(t *teller, s api.Schema, r api.Record) {
	t.tell(len(r.Fields) > 16, 2, api.ErrMany)
	var ahead []string
	for _, f := range r.Fields {
		t.goOn(r.Name, f.Name)
		t.word(f.Name)
		t.tell(slices.Contains(ahead, f.Name), 3, api.ErrTwice)
		t.tell(!rightly.MatchString(shape(s, f.Type)), 4, api.ErrType)
		ahead = append(ahead, f.Name)
	}
}

func serviceByWords(t *teller, s api.Schema, v api.Service) {
	t.tell(len(v.Methods) > 16, 2, api.ErrMany)
	contrary := map[string]string{"give": "take", "take": "give", "note": "note"}
	var ahead []string
	for _, m := range v.Methods {
		t.goOn(v.Name, m.Name)
		t.word(m.Name)
		t.tell(slices.Contains(ahead, m.Name), 3, api.ErrTwice)
		t.tell(m.Result != api.TInt && m.Result != api.TNone, 4, api.ErrType)
		_, known := contrary[m.Effect]
		t.tell(!known || !orderByWords(s, m.Arg), 6, api.ErrEffect)
		if m.Undo != "" {
			u, there := methodByWords(api.Schema{Services: []api.Service{v}}, v.Name, m.Undo)
			t.tell(!there, 7, api.ErrUndo)
			t.tell(u.Arg != m.Arg || u.Undo != "" || u.Result != api.TNone || u.Effect != contrary[m.Effect], 7, api.ErrUndo)
		}
		ahead = append(ahead, m.Name)
	}
}

func sagaByWords(t *teller, s api.Schema, g api.Saga) {
	t.tell(len(g.Steps) < 1 || len(g.Steps) > 8, 2, api.ErrMany)
	t.tell(!orderByWords(s, g.Arg), 8, api.ErrSaga)
	for i, p := range g.Steps {
		t.goOn(g.Name, strconv.Itoa(i))
		m, there := methodByWords(s, p.Service, p.Method)
		t.tell(!there, 9, api.ErrStep)
		t.tell(m.Arg != g.Arg, 9, api.ErrStep)
		t.tell(p.At < 0 || p.At > 3, 9, api.ErrStep)
		t.tell(i+1 < len(g.Steps) && m.Undo == "", 10, api.ErrUndo)
	}
}

// breaches are all breaches of a schema, by rules, then by places. Of many records the words are too slow for what is finite.
func breaches(s api.Schema) []breach {
	t := &teller{declaration: -1, part: -1}
	t.tell(!nameByWords(s.Name), 1, api.ErrWord)
	t.tell(len(s.Records)+len(s.Services)+len(s.Sagas) > 64, 2, api.ErrMany)
	finite := -1
	if len(s.Records) <= 10 {
		finite = least(s)
	}
	var ahead []string
	for i, r := range s.Records {
		t.begin(r.Name, &ahead)
		t.tell(finite>>i&1 == 0, 5, api.ErrBottom)
		recordByWords(t, s, r)
	}
	for _, v := range s.Services {
		t.begin(v.Name, &ahead)
		serviceByWords(t, s, v)
	}
	for _, g := range s.Sagas {
		t.begin(g.Name, &ahead)
		sagaByWords(t, s, g)
	}
	slices.SortStableFunc(t.l, func(a, b breach) int {
		return cmp.Or(a.rule-b.rule, a.declaration-b.declaration, a.part-b.part)
	})
	return t.l
}

// byWords is the first breach, and the zero one if there is none.
func byWords(s api.Schema) breach {
	if l := breaches(s); len(l) > 0 {
		return l[0]
	}
	return breach{}
}

// checks says whether Check answers as the words have it.
func checks(t *testing.T, s api.Schema) breach {
	t.Helper()
	want := byWords(s)
	answers(t, s, want.where, want.e)
	return want
}

// answers says whether Check answers so.
func answers(t *testing.T, s api.Schema, where string, e api.Errno) {
	t.Helper()
	if w, got := Check(s); w != where || got != e {
		t.Fatalf("%s: at %.100q error %d, not at %.100q error %d", short(s), w, got, where, e)
	}
}

// short is a schema, as far as it is fit to be read.
func short(s api.Schema) string {
	var b strings.Builder
	say := func(l ...string) { b.WriteString(strings.Join(l, " ")) }
	say("module", s.Name, "; ")
	for _, r := range s.Records {
		say(map[bool]string{false: "record ", true: "choice "}[r.Choice], r.Name, "{ ")
		for _, f := range r.Fields {
			say(f.Name, ":")
			for _, x := range f.Type {
				say("", strconv.Itoa(int(x.Kind))+x.Name)
			}
			say("; ")
		}
		say("} ")
	}
	for _, v := range s.Services {
		say("service", v.Name, "{ ")
		for _, m := range v.Methods {
			say(m.Effect, m.Name, "(", m.Arg, ") ->", strconv.Itoa(int(m.Result)), "undo", m.Undo, "; ")
		}
		say("} ")
	}
	for _, g := range s.Sagas {
		say("saga", g.Name, "(", g.Arg, ") { ")
		for _, p := range g.Steps {
			say("do", p.Service, ".", p.Method, "at", strconv.Itoa(p.At), "; ")
		}
		say("} ")
	}
	if b.Len() > 2000 {
		return b.String()[:2000] + ".."
	}
	return b.String()
}
