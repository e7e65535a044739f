package prints

import (
	"strconv"
	"strings"

	"redress/api"
)

// line is a text that tokens are put into.
type line struct{ text strings.Builder }

// put puts tokens behind what there is, and one behind the other.
func (l *line) put(tokens ...string) {
	for _, t := range tokens {
		if l.text.Len() > 0 {
			l.text.WriteByte(' ')
		}
		l.text.WriteString(t)
	}
}

// schema puts what a right schema declares: of one that is not right some of its texts may be no tokens.
func (l *line) schema(s api.Schema) {
	l.put("module", s.Name, ";")
	for _, r := range s.Records {
		l.record(r)
	}
	for _, v := range s.Services {
		l.service(v)
	}
	for _, g := range s.Sagas {
		l.saga(g)
	}
}

func (l *line) record(r api.Record) {
	if r.Choice {
		l.put("choice")
	} else {
		l.put("record")
	}
	l.put(r.Name, "{")
	for _, f := range r.Fields {
		l.put(f.Name, ":")
		l.sorts(f.Type)
		l.put(";")
	}
	l.put("}")
}

func (l *line) sorts(t []api.Sort) {
	for _, s := range t {
		if s.Kind == api.TNamed {
			l.put(s.Name)
		} else {
			l.put(keyword(s.Kind))
		}
	}
}

// keyword is the one that means a kind of sort, and empty of a kind that none means.
func keyword(kind byte) string {
	switch kind {
	case api.TNone:
		return "none"
	case api.TBool:
		return "bool"
	case api.TInt:
		return "int"
	case api.TText:
		return "text"
	case api.TList:
		return "list"
	case api.TOpt:
		return "opt"
	}
	return ""
}

func (l *line) service(v api.Service) {
	l.put("service", v.Name, "{")
	for _, m := range v.Methods {
		l.put(m.Effect, m.Name, "(", m.Arg, ")", "->", keyword(m.Result))
		if m.Undo != "" {
			l.put("undo", m.Undo)
		}
		l.put(";")
	}
	l.put("}")
}

func (l *line) saga(g api.Saga) {
	l.put("saga", g.Name, "(", g.Arg, ")", "{")
	for _, p := range g.Steps {
		l.put("do", p.Service, ".", p.Method, "at", strconv.Itoa(p.At), ";")
	}
	l.put("}")
}
