package store

import (
	"iter"
	"strings"

	"redress/mem"
	"redress/merge"
	"redress/table"
)

// View is what a store has at some time. What it leans on never changes. Its zero value has no keys.
type View struct {
	fresh  *mem.Mem[table.Entry]
	tables levels
}

// Get is a key's value.
func (v *View) Get(key string) (string, bool) {
	if v == nil {
		return "", false
	}
	e, ok := v.fresh.Get(key)
	if !ok {
		e, ok = v.tables.find(key)
	}
	if !ok || e.Gone {
		return "", false
	}
	return strings.Clone(e.Value), true
}

// From is the keys from one on, with their values: copies, since an entry of a table is cut from the table's text.
func (v *View) From(key string) iter.Seq2[string, string] {
	if v == nil {
		v = &View{}
	}
	live := merge.Live(merge.Merge(keyOf, v.ways(strings.Clone(key))...))
	return func(yield func(string, string) bool) {
		for key, value := range live {
			if !yield(strings.Clone(key), strings.Clone(value)) {
				return
			}
		}
	}
}

// ways is the entries from a key on, the newest ones ahead.
func (v *View) ways(key string) []iter.Seq[table.Entry] {
	return append([]iter.Seq[table.Entry]{entries(v.fresh, key)}, v.tables.ways(key)...)
}

// entries is what stands in memory, from a key on.
func entries(fresh *mem.Mem[table.Entry], key string) iter.Seq[table.Entry] {
	pairs := fresh.From(key)
	return func(yield func(table.Entry) bool) {
		for _, e := range pairs {
			if !yield(e) {
				return
			}
		}
	}
}

func keyOf(e table.Entry) string { return e.Key }
