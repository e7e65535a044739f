package txn

import (
	"slices"

	"redress/api"
	"redress/mem"
	"redress/table"
)

// batchOf is what a store is to be written for a list: the last put of each key, by rising keys.
func batchOf(l []api.Put) ([]table.Entry, api.Errno) {
	if len(l) > api.MaxBatch || slices.ContainsFunc(l, long) {
		return nil, api.ErrLong
	}
	last := mem.New[table.Entry]()
	for _, p := range l {
		last.Set(p.Key, entryOf(p))
	}
	var batch []table.Entry
	bytes := 0
	for _, e := range last.From("") {
		batch = append(batch, e)
		bytes += len(e.Key) + len(e.Value)
	}
	if bytes > table.Bytes {
		return nil, api.ErrLong
	}
	return batch, api.OK
}

// long says whether a put makes its list too long, whether it counts or not.
func long(p api.Put) bool {
	e := entryOf(p)
	return len(e.Key) == 0 || len(e.Key) > api.MaxKey || len(e.Value) > api.MaxCell
}

// entryOf is a put as an entry. One that is gone has no value there, whatever the put's is.
func entryOf(p api.Put) table.Entry {
	if p.Gone {
		return table.Entry{Key: p.Key, Gone: true}
	}
	return table.Entry{Key: p.Key, Value: p.Value}
}
