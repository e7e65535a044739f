package store

import (
	"slices"
	"strconv"
	"strings"

	"redress/api"
	"redress/disk"
	"redress/manifest"
	"redress/mem"
	"redress/table"
	"redress/wal"
)

const logName = "log"

// Open opens a store. It is looked for on a twin of the disk, so that a disk of which it can't be opened stays as it is.
func Open(d *disk.Disk) (*Store, api.Errno) {
	if d == nil {
		return nil, api.ErrNil
	}
	twin := d.Twin()
	twin.Fuse(0)
	s, e := look(twin)
	if e == api.OK {
		e = s.settle(d)
	}
	if e != api.OK {
		return nil, e
	}
	return s, api.OK
}

// look is the store that lies on a disk.
func look(d *disk.Disk) (*Store, api.Errno) {
	log, records, e := wal.Open(d, logName)
	if e != api.OK {
		return nil, e
	}
	m, e := manifest.Open(d)
	if e != api.OK {
		return nil, e
	}
	s := &Store{now: View{fresh: mem.New[table.Entry]()}, disk: d, log: log, manifest: m}
	if e := s.readTables(); e != api.OK {
		return nil, e
	}
	if e := s.readLog(records); e != api.OK {
		return nil, e
	}
	return s, api.OK
}

// readTables opens the tables that the manifest tells of.
func (s *Store) readTables() api.Errno {
	if slices.ContainsFunc(s.disk.List(), strange) {
		return api.ErrBad
	}
	var made []*opened
	for _, f := range s.manifest.State().Files {
		text, e := s.disk.Read(nameOf(f.N))
		if e != api.OK {
			return api.ErrBad
		}
		t, e := open(f.N, f.Level, text)
		if e != api.OK || t.File != f {
			return api.ErrBad
		}
		made = append(made, t)
	}
	s.now.tables = s.now.tables.with(nil, made)
	return api.OK
}

// strange says whether a file's name begins as that of a table's file, and is none.
func strange(name string) bool {
	number, is := strings.CutPrefix(name, ours)
	n, _ := strconv.Atoi(number)
	return is && (n < 1 || name != nameOf(n))
}

// readLog makes what is in no table be fresh. Were there a gap between the tables and the log, something would be lost.
func (s *Store) readLog(records []wal.Record) api.Errno {
	last := s.manifest.State().Log
	if s.log.First() > last+1 || s.log.Last() < last {
		return api.ErrBad
	}
	for _, r := range records {
		if r.N <= last {
			continue
		}
		t, e := table.Open(r.Body)
		if e != api.OK {
			return api.ErrBad
		}
		s.remember(t.From(""), r.Body)
	}
	return api.OK
}

// settle makes the store be one of another disk that has the same, and takes away what was left there where the power went.
func (s *Store) settle(d *disk.Disk) api.Errno {
	log, _, e := wal.Open(d, logName)
	if e != api.OK {
		return e
	}
	m, e := manifest.Open(d)
	if e != api.OK {
		return e
	}
	s.disk, s.log, s.manifest = d, log, m
	return s.sweep()
}

// sweep takes away the files of tables that the manifest doesn't tell of.
func (s *Store) sweep() api.Errno {
	var known []string
	for _, f := range s.manifest.State().Files {
		known = append(known, nameOf(f.N))
	}
	for _, name := range s.disk.List() {
		if !strings.HasPrefix(name, ours) || slices.Contains(known, name) {
			continue
		}
		if e := s.disk.Remove(name); e != api.OK {
			return e
		}
	}
	return api.OK
}
