package txn

import (
	"iter"
	"strings"

	"redress/store"
)

// Snap is what a db has at some time. Its zero value has no keys.
type Snap struct {
	*store.View
}

// some is a snapshot; instead of a nil one, of which nothing that is promoted can be asked, one without keys.
func (s *Snap) some() *Snap {
	if s == nil {
		return &Snap{}
	}
	return s
}

// Get is a key's value; Range the keys that begin with a prefix.
func (s *Snap) Get(key string) (string, bool) { return s.some().View.Get(key) }
func (s *Snap) Range(prefix string) iter.Seq2[string, string] {
	prefix = strings.Clone(prefix)
	all := s.some().From(prefix)
	return func(yield func(string, string) bool) {
		for key, value := range all {
			if !strings.HasPrefix(key, prefix) || !yield(key, value) {
				return
			}
		}
	}
}
