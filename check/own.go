package check

import (
	"strings"

	"redress/api"
)

// own is a list of what each one of a list is in memory of its own.
func own[T any](l []T, of func(x T) T) []T {
	var c []T
	for _, x := range l {
		c = append(c, of(x))
	}
	return c
}

func ownRecord(r api.Record) api.Record {
	r.Name = strings.Clone(r.Name)
	r.Fields = own(r.Fields, ownField)
	return r
}

func ownField(f api.Field) api.Field {
	f.Name = strings.Clone(f.Name)
	f.Type = own(f.Type, ownSort)
	return f
}

func ownSort(t api.Sort) api.Sort {
	t.Name = strings.Clone(t.Name)
	return t
}

func ownMethod(m api.Method) api.Method {
	m.Name = strings.Clone(m.Name)
	m.Arg = strings.Clone(m.Arg)
	m.Effect = strings.Clone(m.Effect)
	m.Undo = strings.Clone(m.Undo)
	return m
}

func ownSaga(g api.Saga) api.Saga {
	g.Name = strings.Clone(g.Name)
	g.Arg = strings.Clone(g.Arg)
	g.Steps = own(g.Steps, ownStep)
	return g
}

func ownStep(p api.Step) api.Step {
	p.Service = strings.Clone(p.Service)
	p.Method = strings.Clone(p.Method)
	return p
}
