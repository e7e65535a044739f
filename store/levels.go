package store

import (
	"cmp"
	"iter"
	"slices"
	"sort"

	"redress/manifest"
	"redress/table"
)

const (
	full   = table.Bytes              // what a table weighs at most
	row    = table.Bytes / table.Most // what an entry weighs beside its bytes: a table that is not too heavy has not too many entries, either
	small  = full / 2                 // what a table weighs at most that is put together with the one beside it
	crowd  = 4                        // so many tables of level 0 are put together
	light  = full                     // what level 1 weighs at most, when nothing is left to be put together
	growth = 8                        // how much heavier than that the next level may be
)

// opened is a table that is opened, with what the manifest knows of it.
type opened struct {
	manifest.File
	*table.Table
	weight int
}

// weigh is what an entry weighs.
func weigh(e table.Entry) int { return row + len(e.Key) + len(e.Value) }

// covers says whether a key may be in a table.
func (t *opened) covers(key string) bool { return t.First <= key && key <= t.Last }

// levels is the tables of each level: those of level 0 the newest one ahead, the others by their keys. Its lists are never changed, for views have them, too.
type levels [manifest.Levels][]*opened

// find is the newest entry of a key.
func (l levels) find(key string) (table.Entry, bool) {
	for _, tables := range l {
		for _, t := range tables {
			if !t.covers(key) {
				continue
			}
			if e, ok := t.Get(key); ok {
				return e, true
			}
		}
	}
	return table.Entry{}, false
}

// ways is the entries from a key on, the newest ones ahead. A table of level 0 is a way of its own, each other level is one.
func (l levels) ways(key string) []iter.Seq[table.Entry] {
	var ways []iter.Seq[table.Entry]
	for _, t := range l[0] {
		if t.Last >= key {
			ways = append(ways, t.From(key))
		}
	}
	for _, tables := range l[1:] {
		begin := sort.Search(len(tables), func(i int) bool { return tables[i].Last >= key })
		if begin < len(tables) {
			ways = append(ways, chain(tables[begin:], key))
		}
	}
	return ways
}

// chain is the entries of tables that stand behind one another, from a key on.
func chain(tables []*opened, key string) iter.Seq[table.Entry] {
	return func(yield func(table.Entry) bool) {
		for _, t := range tables {
			for e := range t.From(key) {
				if !yield(e) {
					return
				}
			}
		}
	}
}

// from is the levels without those ahead of one.
func (l levels) from(level int) levels {
	clear(l[:level])
	return l
}

// with is the levels with some tables instead of others.
func (l levels) with(old, made []*opened) levels {
	for level, tables := range l {
		l[level] = slices.DeleteFunc(slices.Clone(tables), func(t *opened) bool { return slices.Contains(old, t) })
	}
	for _, t := range made {
		l[t.Level] = append(l[t.Level], t)
	}
	slices.SortFunc(l[0], func(a, b *opened) int { return cmp.Compare(b.N, a.N) })
	for _, tables := range l[1:] {
		slices.SortFunc(tables, func(a, b *opened) int { return cmp.Compare(a.First, b.First) })
	}
	return l
}

// due is the tables that are to go into the next level, the newest one ahead, and which level that is; none, if no level has too much. Of level 0 the oldest ones go, since what stays there must be newer than what is in the next one.
func (l levels) due() ([]*opened, int) {
	if n := len(l[0]); n >= crowd {
		return l[0][n-crowd:], 1
	}
	most := light
	for level, tables := range l[:len(l)-1] {
		if level == 0 {
			continue
		}
		if weightOf(tables) > most {
			return []*opened{oldest(tables)}, level + 1
		}
		most *= growth
	}
	return nil, 0
}

// weightOf is what tables weigh together.
func weightOf(tables []*opened) int {
	weight := 0
	for _, t := range tables {
		weight += t.weight
	}
	return weight
}

// oldest is the table with the least number: so all keys get their turn.
func oldest(tables []*opened) *opened {
	return slices.MinFunc(tables, func(a, b *opened) int { return cmp.Compare(a.N, b.N) })
}

// span is the tables of a level from 1 on that keys from the first to the last one of others lie in, and the small ones beside them: so the level has never many small ones.
func span(tables, others []*opened) []*opened {
	first := slices.MinFunc(others, func(a, b *opened) int { return cmp.Compare(a.First, b.First) }).First
	last := slices.MaxFunc(others, func(a, b *opened) int { return cmp.Compare(a.Last, b.Last) }).Last
	begin := sort.Search(len(tables), func(i int) bool { return tables[i].Last >= first })
	end := sort.Search(len(tables), func(i int) bool { return tables[i].First > last })
	for begin > 0 && tables[begin-1].weight <= small {
		begin--
	}
	for end < len(tables) && tables[end].weight <= small {
		end++
	}
	return tables[begin:end]
}
