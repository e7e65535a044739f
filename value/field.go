package value

import (
	"strings"

	"redress/api"
)

// fitting is the record of a name, if it is no choice and a value of it fits.
func fitting(s api.Schema, name string, v api.Value) (api.Record, bool) {
	t := []api.Sort{{Kind: api.TNamed, Name: name}}
	find, e := finding(s, t)
	if e != api.OK || find.fits(t, v) != api.OK {
		return api.Record{}, false
	}
	r, _ := find(name)
	return r, !r.Choice
}

// fieldOf is the value of the first field of a name, a piece of a value of its record.
func fieldOf(r api.Record, v api.Value, name string) (api.Value, bool) {
	at := 1 // behind the record's own part
	for _, f := range r.Fields {
		end := End(v, at)
		if f.Name == name {
			return v[at:end], true
		}
		at = end
	}
	return nil, false
}

// plainOf is the part of the first field of a name, if it is of a kind.
func plainOf(r api.Record, v api.Value, name string, kind byte) (api.Node, bool) {
	part, ok := fieldOf(r, v, name)
	if !ok || part[0].Kind != kind {
		return api.Node{}, false
	}
	return part[0], true
}

// own is a value in memory of its own.
func own(v api.Value) api.Value {
	var c api.Value
	for _, n := range v {
		n.Text = strings.Clone(n.Text)
		c = append(c, n)
	}
	return c
}
