package wal

import (
	"strings"

	"redress/api"
	"redress/disk"
)

// file is a file of a log: frames of records, one behind the other.
type file struct {
	disk *disk.Disk
	name string
	size int    // how many bytes it has
	tail string // those of them that may be cut: what Sync didn't come behind
	torn string // the beginning of a frame that it ends with, where a crash has cut that
}

// create makes a file without frames.
func create(d *disk.Disk, name string) (file, api.Errno) {
	if e := d.Create(name); e != api.OK {
		return file{}, e
	}
	return file{disk: d, name: name}, api.OK
}

// undo takes a file away that was made for a call which had an error, and tells that; or that of its being taken away.
func (f *file) undo(e api.Errno) api.Errno {
	if gone := f.disk.Remove(f.name); gone != api.OK {
		return gone
	}
	return e
}

// write puts frames behind the others.
func (f *file) write(frames string) api.Errno {
	if e := f.disk.Append(f.name, frames); e != api.OK {
		return e
	}
	f.size += len(frames)
	f.tail += frames
	return api.OK
}

// sync makes all that was written stay.
func (f *file) sync() api.Errno {
	if e := f.disk.Sync(f.name); e != api.OK {
		return e
	}
	f.tail = ""
	return api.OK
}

// become gives the file another name, and makes all of it stay ahead of that; a file that had the name is gone.
func (f *file) become(name string) api.Errno {
	if e := f.sync(); e != api.OK {
		return e
	}
	if e := f.disk.Rename(f.name, name); e != api.OK {
		return e
	}
	f.name = name
	return api.OK
}

// full says whether the file takes no more records.
func (f *file) full() bool { return f.size >= Segment }

// stands says whether the file is as it was left. Its end is looked at, too, not its length alone: a crash may have cut it, and another object of the log may have written on, or mended it. What is synced, and whole, stays.
func (f *file) stands() bool {
	s, e := f.disk.Read(f.name)
	return e == api.OK && len(s) == f.size && strings.HasSuffix(s, f.torn+f.tail)
}
