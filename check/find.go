package check

import (
	"slices"

	"redress/api"
)

// first is the first one of a list that it is.
func first[T any](l []T, is func(x T) bool) (T, bool) {
	if i := slices.IndexFunc(l, is); i >= 0 {
		return l[i], true
	}
	var nothing T
	return nothing, false
}

// record is the first record or choice of a name, a piece of the schema.
func record(s api.Schema, name string) (api.Record, bool) {
	return first(s.Records, func(r api.Record) bool { return r.Name == name })
}

// called is the first method of a name in the first service of a name, a piece of the schema.
func called(s api.Schema, service, method string) (api.Method, bool) {
	v, _ := first(s.Services, func(v api.Service) bool { return v.Name == service })
	return methodOf(v, method)
}

func methodOf(v api.Service, name string) (api.Method, bool) {
	return first(v.Methods, func(m api.Method) bool { return m.Name == name })
}
