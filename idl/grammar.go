package idl

import "redress/api"

func schema(r *reader) api.Schema {
	var s api.Schema
	r.one("module")
	s.Name = r.name()
	r.one(";")
	for r.ahead() != "" {
		declare(r, &s)
	}
	return s
}

// declare reads a declaration, and puts it behind those of its kind.
func declare(r *reader, s *api.Schema) {
	switch r.one("record", "choice", "service", "saga") {
	case "record":
		s.Records = append(s.Records, record(r, false))
	case "choice":
		s.Records = append(s.Records, record(r, true))
	case "service":
		s.Services = append(s.Services, service(r))
	case "saga":
		s.Sagas = append(s.Sagas, saga(r))
	}
}

func record(r *reader, choice bool) api.Record {
	rec := api.Record{Choice: choice}
	rec.Name = r.name()
	rec.Fields = braced(r, field)
	return rec
}

func field(r *reader) api.Field {
	var f api.Field
	f.Name = r.name()
	r.one(":")
	f.Type = sorts(r)
	r.one(";")
	return f
}

// sorts reads a type: it ends with the first sort that is about no other one.
func sorts(r *reader) []api.Sort {
	var l []api.Sort
	for {
		s := sort(r)
		l = append(l, s)
		if s.Kind != api.TList && s.Kind != api.TOpt {
			return l
		}
	}
}

func sort(r *reader) api.Sort {
	word := r.ahead()
	kind := meant(word)
	if kind == 0 {
		return api.Sort{Kind: api.TNamed, Name: r.name()}
	}
	r.one(word)
	return api.Sort{Kind: kind}
}

// meant is the kind of the sort that a keyword means, and 0 if it means none.
func meant(word string) byte {
	switch word {
	case "none":
		return api.TNone
	case "bool":
		return api.TBool
	case "int":
		return api.TInt
	case "text":
		return api.TText
	case "list":
		return api.TList
	case "opt":
		return api.TOpt
	}
	return 0
}

func service(r *reader) api.Service {
	var s api.Service
	s.Name = r.name()
	s.Methods = braced(r, method)
	return s
}

func method(r *reader) api.Method {
	var m api.Method
	m.Effect = r.one("give", "take", "note")
	m.Name = r.name()
	m.Arg = argument(r)
	r.one("->")
	m.Result = meant(r.one("int", "none"))
	if r.got("undo") {
		m.Undo = r.name()
	}
	r.one(";")
	return m
}

// argument reads the name that stands in brackets.
func argument(r *reader) string {
	r.one("(")
	name := r.name()
	r.one(")")
	return name
}

func saga(r *reader) api.Saga {
	var s api.Saga
	s.Name = r.name()
	s.Arg = argument(r)
	s.Steps = braced(r, step)
	return s
}

func step(r *reader) api.Step {
	var s api.Step
	r.one("do")
	s.Service = r.name()
	r.one(".")
	s.Method = r.name()
	r.one("at")
	s.At = r.number()
	r.one(";")
	return s
}
