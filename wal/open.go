package wal

import (
	"strconv"
	"strings"

	"redress/api"
	"redress/disk"
	"redress/sum"
)

const (
	longest = 12    // bytes of a log's name
	digits  = 19    // of the number in a file's name: as many as a disk lets stand behind the longest log's name
	spare   = "new" // stands instead of the number in the name of a file that is to become another one
)

// isName says whether a text is a log's name.
func isName(s string) bool {
	return len(s) >= 1 && len(s) <= longest && strings.Trim(s, "abcdefghijklmnopqrstuvwxyz") == ""
}

// nameOf is the name of the file whose first record has a number, or will have it: names rise with the numbers.
func (w *Wal) nameOf(first int) string {
	s := strconv.Itoa(first)
	return w.log + strings.Repeat("0", digits-len(s)) + s
}

// numberOf is the number in a file's name. It is well below the greatest one, lest those behind it have no room.
func numberOf(s string) (int, bool) {
	n, err := strconv.ParseUint(s, 10, strconv.IntSize-2)
	return int(n), err == nil && n > 0 && len(s) == digits
}

// Open opens a log.
func Open(d *disk.Disk, name string) (*Wal, []Record, api.Errno) {
	if d == nil {
		return nil, nil, api.ErrNil
	}
	if !isName(name) {
		return nil, nil, api.ErrArg
	}
	if d.Down() {
		return nil, nil, api.ErrDown
	}
	w := &Wal{file: file{disk: d}, log: name + "."}
	l, e := w.read()
	if e == api.OK {
		e = w.settle()
	}
	if e != api.OK {
		return nil, nil, e
	}
	return w, l, api.OK
}

// read finds the log's files, and tells the records that stand in them.
func (w *Wal) read() ([]Record, api.Errno) {
	var l []Record
	for _, name := range w.disk.List() {
		number, ours := strings.CutPrefix(name, w.log)
		if !ours || number == spare {
			continue
		}
		first, ok := numberOf(number)
		if !ok || len(w.firsts) > 0 && first != w.last+1 {
			return nil, api.ErrBad
		}
		s, e := w.disk.Read(name)
		if e != api.OK {
			return nil, e
		}
		bodies, torn := frames(s)
		w.last = first - 1
		w.follow(file{disk: w.disk, name: name, size: len(s), torn: torn})
		for _, body := range bodies {
			w.last++
			l = append(l, Record{w.last, body})
		}
	}
	return l, api.OK
}

// frames is the bodies of the frames that a text begins with, and what stands behind these.
func frames(s string) (bodies []string, rest string) {
	for body, next, ok := sum.Next(s, 0); ok; body, next, ok = sum.Next(s, 0) {
		bodies = append(bodies, body)
		s = s[next:]
	}
	return bodies, strings.Clone(s)
}

// settle makes what was read stay.
func (w *Wal) settle() api.Errno {
	for _, first := range w.firsts {
		if e := w.disk.Sync(w.nameOf(first)); e != api.OK {
			return e
		}
	}
	if e := w.sweep(); e != api.OK || len(w.firsts) > 0 {
		return e
	}
	f, e := create(w.disk, w.nameOf(w.last+1))
	if e == api.OK {
		w.follow(f)
	}
	return e
}

// sweep takes the spare file away that was left where the power went.
func (w *Wal) sweep() api.Errno {
	if e := w.disk.Remove(w.log + spare); e != api.ErrNone {
		return e
	}
	return api.OK
}

// copied is a spare file with the whole frames of the file that takes records; with none, where the disk has no room for these.
func (w *Wal) copied() (file, api.Errno) {
	s, e := w.disk.Read(w.name)
	if e != api.OK {
		return file{}, e
	}
	if e := w.sweep(); e != api.OK {
		return file{}, e
	}
	f, e := create(w.disk, w.log+spare)
	if e != api.OK {
		return file{}, e
	}
	if e := f.write(strings.TrimSuffix(s, w.torn)); e != api.OK && e != api.ErrFull {
		return file{}, e
	}
	return f, api.OK
}

// mend makes the file that takes records be one without a torn end: a record behind that would not be found again. The copy of its whole frames takes its place; one without any is the file of the next record, be that the same place or the one behind it.
func (w *Wal) mend() api.Errno {
	f, e := w.copied()
	if e != api.OK {
		return e
	}
	name := w.name
	if f.size == 0 {
		name = w.nameOf(w.last + 1)
	}
	if e := f.become(name); e != api.OK {
		return e
	}
	if name == w.name {
		w.file = f
		return api.OK
	}
	w.follow(f)
	return api.OK
}
