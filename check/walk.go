package check

import (
	"iter"

	"redress/api"
)

// declared are the declarations' names, each with those of its parts that have one.
func declared(s api.Schema) iter.Seq2[string, []string] {
	return func(yield func(string, []string) bool) {
		for _, r := range s.Records {
			if !yield(r.Name, names(r.Fields, func(f api.Field) string { return f.Name })) {
				return
			}
		}
		for _, v := range s.Services {
			if !yield(v.Name, names(v.Methods, func(m api.Method) string { return m.Name })) {
				return
			}
		}
		for _, g := range s.Sagas {
			if !yield(g.Name, nil) {
				return
			}
		}
	}
}

func names[T any](l []T, name func(x T) string) []string {
	var of []string
	for _, x := range l {
		of = append(of, name(x))
	}
	return of
}

// methods are all methods, each with its service.
func methods(s api.Schema) iter.Seq2[api.Service, api.Method] {
	return func(yield func(api.Service, api.Method) bool) {
		for _, v := range s.Services {
			for _, m := range v.Methods {
				if !yield(v, m) {
					return
				}
			}
		}
	}
}

// steps are all steps, each by its saga and its number there.
func steps(s api.Schema) iter.Seq2[api.Saga, int] {
	return func(yield func(api.Saga, int) bool) {
		for _, g := range s.Sagas {
			for i := range g.Steps {
				if !yield(g, i) {
					return
				}
			}
		}
	}
}
