package store

import (
	"iter"
	"slices"
	"strconv"

	"redress/api"
	"redress/manifest"
	"redress/mem"
	"redress/merge"
	"redress/table"
)

const ours = "table." // what the names of the tables' files begin with

// nameOf is the name of a table's file.
func nameOf(n int) string { return ours + strconv.Itoa(n) }

// open opens the text of a table, and tells of it what the manifest is to know.
func open(n, level int, text string) (*opened, api.Errno) {
	t, e := table.Open(text)
	if e != api.OK {
		return nil, e
	}
	first, last := t.Ends()
	o := &opened{File: manifest.File{N: n, Level: level, Count: t.Len(), First: first, Last: last}, Table: t}
	for e := range t.From("") {
		o.weight += weigh(e)
	}
	return o, api.OK
}

// move puts all that is fresh, and a batch, into tables, and lets the log's records go. Where there is no room for that they stay: they are not looked at again.
func (s *Store) move(l []table.Entry) api.Errno {
	if s.logged == 0 && len(l) == 0 {
		return api.OK
	}
	fresh := s.now.fresh.Twin()
	set(fresh, slices.Values(l))
	last := s.log.Last()
	tables, e := s.change(nil, 0, needed(entries(fresh, ""), s.now.tables), last)
	if e != api.OK {
		return e
	}
	if e := s.log.Drop(last); e != api.OK && e != api.ErrFull {
		return e
	}
	s.now = View{mem.New[table.Entry](), tables}
	s.logged = 0
	return api.OK
}

// compact puts the tables of a level that has too much together with those of the next one, if there are any.
func (s *Store) compact() (bool, api.Errno) {
	upper, level := s.now.tables.due()
	if len(upper) == 0 {
		return false, api.OK
	}
	lower := span(s.now.tables[level], upper)
	var ways []iter.Seq[table.Entry]
	for _, t := range upper {
		ways = append(ways, t.From(""))
	}
	ways = append(ways, chain(lower, ""))
	seq := needed(merge.Merge(keyOf, ways...), s.now.tables.from(level+1))
	tables, e := s.change(slices.Concat(upper, lower), level, seq, 0)
	if e != api.OK {
		return false, e
	}
	s.now.tables = tables
	return true, api.OK
}

// needed is entries without those that say of a key that it is gone where nothing older has it.
func needed(seq iter.Seq[table.Entry], older levels) iter.Seq[table.Entry] {
	return func(yield func(table.Entry) bool) {
		for e := range seq {
			if e.Gone {
				if old, ok := older.find(e.Key); !ok || old.Gone {
					continue
				}
			}
			if !yield(e) {
				return
			}
		}
	}
}

// change makes entries be new tables of a level, instead of some old ones, and is all tables there are then. The number of the log's last record that is in tables is raised to last.
func (s *Store) change(old []*opened, level int, seq iter.Seq[table.Entry], last int) (levels, api.Errno) {
	made, e := s.lay(level, seq)
	if e != api.OK {
		return levels{}, e
	}
	if e := s.commit(old, made, last); e != api.OK {
		return levels{}, s.remove(made, e)
	}
	if e := s.remove(old, api.OK); e != api.OK {
		return levels{}, e
	}
	return s.now.tables.with(old, made), api.OK
}

// lay makes entries be tables on the disk; none, if there is an error.
func (s *Store) lay(level int, seq iter.Seq[table.Entry]) ([]*opened, api.Errno) {
	next := s.manifest.State().Next
	var made []*opened
	for i, l := range cut(seq) {
		t, e := s.layOne(next+i, level, l)
		if e != api.OK {
			return nil, s.remove(made, e)
		}
		made = append(made, t)
	}
	return made, api.OK
}

// cut is entries in lists, each of them one that a table may have.
func cut(seq iter.Seq[table.Entry]) [][]table.Entry {
	var lists [][]table.Entry
	var l []table.Entry
	weight := 0
	for e := range seq {
		if weight+weigh(e) > full {
			lists = append(lists, l)
			l, weight = nil, 0
		}
		l = append(l, e)
		weight += weigh(e)
	}
	if len(l) > 0 {
		lists = append(lists, l)
	}
	return lists
}

// layOne makes a list be a table's file.
func (s *Store) layOne(n, level int, l []table.Entry) (*opened, api.Errno) {
	text, e := table.Build(l)
	if e != api.OK {
		return nil, e
	}
	t, e := open(n, level, text)
	if e != api.OK {
		return nil, e
	}
	if e := s.disk.Create(nameOf(n)); e != api.OK {
		return nil, e
	}
	e = s.disk.Append(nameOf(n), text)
	if e == api.OK {
		e = s.disk.Sync(nameOf(n))
	}
	if e != api.OK {
		return nil, s.remove([]*opened{t}, e)
	}
	return t, api.OK
}

// commit tells the manifest which tables go and which come. What it can't take, because there would be too many, is as if there were no room.
func (s *Store) commit(old, made []*opened, last int) api.Errno {
	edit := manifest.Edit{Log: last}
	for _, t := range old {
		edit.Drop = append(edit.Drop, t.N)
	}
	for _, t := range made {
		edit.Add = append(edit.Add, t.File)
		edit.Next = t.N + 1
	}
	e := s.manifest.Commit(edit)
	if e == api.ErrArg {
		return api.ErrFull
	}
	return e
}

// remove takes tables' files away, and tells an error; or that of their being taken away.
func (s *Store) remove(tables []*opened, e api.Errno) api.Errno {
	for _, t := range tables {
		if gone := s.disk.Remove(nameOf(t.N)); gone != api.OK {
			return gone
		}
	}
	return e
}
