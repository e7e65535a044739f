package check

import (
	"slices"

	"redress/api"
)

// isType says whether sorts are a type of a schema.
func isType(s api.Schema, t []api.Sort) bool {
	if len(t) == 0 || len(t) > api.MaxDepth {
		return false
	}
	last := len(t) - 1
	for _, about := range t[:last] {
		if about.Kind != api.TList && about.Kind != api.TOpt || about.Name != "" {
			return false
		}
	}
	return isLast(s, t[last])
}

// isLast says whether a type of a schema may end in a sort.
func isLast(s api.Schema, t api.Sort) bool {
	switch t.Kind {
	case api.TNone, api.TBool, api.TInt, api.TText:
		return t.Name == ""
	case api.TNamed:
		_, ok := record(s, t.Name)
		return ok
	}
	return false
}

// isOrder says whether a name is an order record's.
func isOrder(s api.Schema, name string) bool {
	r, ok := record(s, name)
	return ok && !r.Choice && hasField(r, "account", api.TText) && hasField(r, "amount", api.TInt)
}

// hasField says whether a record has a field of a type that is one sort alone.
func hasField(r api.Record, name string, kind byte) bool {
	f, ok := first(r.Fields, func(f api.Field) bool { return f.Name == name })
	return ok && slices.Equal(f.Type, []api.Sort{{Kind: kind}})
}

// named are names of records and choices that have a value.
type named map[string]struct{}

func (known named) has(name string) bool {
	_, ok := known[name]
	return ok
}

// finite are all of them: those that have a value by what is known already, again and again, till that grows no more.
func finite(s api.Schema) named {
	known := named{}
	for before := -1; before < len(known); {
		before = len(known)
		for _, r := range s.Records {
			if known.value(r) {
				known[r.Name] = struct{}{}
			}
		}
	}
	return known
}

// value says whether a record or choice has a value by what is known.
func (known named) value(r api.Record) bool {
	with := 0
	for _, f := range r.Fields {
		if known.valueOf(f.Type) {
			with++
		}
	}
	if r.Choice {
		return with > 0
	}
	return with == len(r.Fields)
}

// valueOf says whether a type has a value by what is known.
func (known named) valueOf(t []api.Sort) bool {
	return t[0].Kind != api.TNamed || known.has(t[0].Name)
}
