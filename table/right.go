package table

import (
	"slices"

	"redress/api"
)

// long says whether there are too many entries, too many bytes in all, or too many of one key or value.
func long(l []Entry) bool {
	if len(l) > Most {
		return true
	}
	bytes := 0
	for _, e := range l {
		if len(e.Key) > api.MaxKey || len(e.Value) > api.MaxCell {
			return true
		}
		bytes += len(e.Key) + len(e.Value)
	}
	return bytes > Bytes
}

// rises says whether the keys of a list rise.
func rises(l []Entry) bool {
	for i := range l {
		if i > 0 && l[i-1].Key >= l[i].Key {
			return false
		}
	}
	return true
}

// whole says whether each entry has a key, and none that is gone a value.
func whole(l []Entry) bool {
	return !slices.ContainsFunc(l, func(e Entry) bool {
		return e.Key == "" || e.Gone && e.Value != ""
	})
}
