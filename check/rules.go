package check

import (
	"slices"
	"strconv"

	"redress/api"
	"redress/token"
)

const (
	mostDeclarations = 64
	mostMethods      = 16 // of a service
)

// rule tells the first place at which a schema breaks it, which may be a piece of the schema, and by which error.
type rule func(s api.Schema) (where string, e api.Errno)

// rules are asked one behind the other: each is asked only of what keeps all those ahead of it, and leans on that.
func rules() [10]rule {
	return [...]rule{
		misnamed,
		tooMany,
		twice,
		mistyped,
		bottomless,
		wrongEffects,
		wrongUndos,
		wrongSagas,
		wrongSteps,
		noWayBack,
	}
}

// place is that of a declaration's part.
func place(declaration, part string) string { return declaration + "." + part }

func misnamed(s api.Schema) (string, api.Errno) {
	if !token.Name(s.Name) {
		return "", api.ErrWord
	}
	for name, parts := range declared(s) {
		if !token.Name(name) {
			return name, api.ErrWord
		}
		for _, part := range parts {
			if !token.Name(part) {
				return part, api.ErrWord
			}
		}
	}
	return "", api.OK
}

func tooMany(s api.Schema) (string, api.Errno) {
	if len(s.Records)+len(s.Services)+len(s.Sagas) > mostDeclarations {
		return "", api.ErrMany
	}
	for _, r := range s.Records {
		if len(r.Fields) > api.MaxFields {
			return r.Name, api.ErrMany
		}
	}
	for _, v := range s.Services {
		if len(v.Methods) > mostMethods {
			return v.Name, api.ErrMany
		}
	}
	for _, g := range s.Sagas {
		if len(g.Steps) == 0 || len(g.Steps) > api.MaxSteps {
			return g.Name, api.ErrMany
		}
	}
	return "", api.OK
}

func twice(s api.Schema) (string, api.Errno) {
	var ahead []string
	for name, parts := range declared(s) {
		if slices.Contains(ahead, name) {
			return name, api.ErrTwice
		}
		ahead = append(ahead, name)
		for i, part := range parts {
			if slices.Contains(parts[:i], part) {
				return place(name, part), api.ErrTwice
			}
		}
	}
	return "", api.OK
}

func mistyped(s api.Schema) (string, api.Errno) {
	for _, r := range s.Records {
		for _, f := range r.Fields {
			if !isType(s, f.Type) {
				return place(r.Name, f.Name), api.ErrType
			}
		}
	}
	for v, m := range methods(s) {
		if m.Result != api.TInt && m.Result != api.TNone {
			return place(v.Name, m.Name), api.ErrType
		}
	}
	return "", api.OK
}

func bottomless(s api.Schema) (string, api.Errno) {
	known := finite(s)
	for _, r := range s.Records {
		if !known.has(r.Name) {
			return r.Name, api.ErrBottom
		}
	}
	return "", api.OK
}

func wrongEffects(s api.Schema) (string, api.Errno) {
	for v, m := range methods(s) {
		if contrary(m.Effect) == "" || !isOrder(s, m.Arg) {
			return place(v.Name, m.Name), api.ErrEffect
		}
	}
	return "", api.OK
}

func wrongUndos(s api.Schema) (string, api.Errno) {
	for v, m := range methods(s) {
		if m.Undo != "" && !undone(v, m) {
			return place(v.Name, m.Name), api.ErrUndo
		}
	}
	return "", api.OK
}

// undone says whether what a method of a service names as its undo is one.
func undone(v api.Service, m api.Method) bool {
	u, ok := methodOf(v, m.Undo)
	return ok && u.Arg == m.Arg && u.Undo == "" && u.Result == api.TNone && u.Effect == contrary(m.Effect)
}

// contrary is the contrary of an effect, and empty if it is none.
func contrary(effect string) string {
	switch effect {
	case "give":
		return "take"
	case "take":
		return "give"
	case "note":
		return "note"
	}
	return ""
}

func wrongSagas(s api.Schema) (string, api.Errno) {
	for _, g := range s.Sagas {
		if !isOrder(s, g.Arg) {
			return g.Name, api.ErrSaga
		}
	}
	return "", api.OK
}

func wrongSteps(s api.Schema) (string, api.Errno) {
	for g, i := range steps(s) {
		p := g.Steps[i]
		m, ok := called(s, p.Service, p.Method)
		if !ok || m.Arg != g.Arg || p.At < 0 || p.At >= api.MaxPeers {
			return place(g.Name, strconv.Itoa(i)), api.ErrStep
		}
	}
	return "", api.OK
}

func noWayBack(s api.Schema) (string, api.Errno) {
	for g, i := range steps(s) {
		p := g.Steps[i]
		m, _ := called(s, p.Service, p.Method)
		if m.Undo == "" && i < len(g.Steps)-1 {
			return place(g.Name, strconv.Itoa(i)), api.ErrUndo
		}
	}
	return "", api.OK
}
