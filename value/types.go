package value

import (
	"redress/api"
	"redress/check"
)

// finder finds a schema's record or choice by its name.
type finder func(name string) (api.Record, bool)

// finderOf is that of a right schema, in which no name is there twice.
func finderOf(s api.Schema) finder {
	known := make(map[string]api.Record)
	for _, r := range s.Records {
		known[r.Name] = r
	}
	return func(name string) (api.Record, bool) {
		r, ok := known[name]
		return r, ok
	}
}

// finding is the finder of a right schema in which a type is right, else by which error one of them is not.
func finding(s api.Schema, t []api.Sort) (finder, api.Errno) {
	if _, e := check.Check(s); e != api.OK {
		return nil, e
	}
	find := finderOf(s)
	if !find.isType(t) {
		return nil, api.ErrType
	}
	return find, api.OK
}

// isType says whether sorts are a type.
func (find finder) isType(t []api.Sort) bool {
	if len(t) == 0 || len(t) > api.MaxDepth {
		return false
	}
	last := len(t) - 1
	for _, about := range t[:last] {
		if about.Kind != api.TList && about.Kind != api.TOpt || about.Name != "" {
			return false
		}
	}
	return find.isLast(t[last])
}

// isLast says whether a type may end in a sort.
func (find finder) isLast(t api.Sort) bool {
	switch t.Kind {
	case api.TNone, api.TBool, api.TInt, api.TText:
		return t.Name == ""
	case api.TNamed:
		_, ok := find(t.Name)
		return ok
	}
	return false
}
