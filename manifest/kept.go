package manifest

import (
	"slices"
	"strconv"
	"strings"

	"redress/api"
	"redress/disk"
	"redress/sum"
)

const (
	ours  = "manifest."   // what the names of a manifest's files begin with
	main  = ours + "main" // the file that keeps the state; there is none ahead of the first Commit
	spare = ours + "new"  // the file that is to take that one's place
	head  = 3             // texts ahead of those of the tables
	row   = 5             // texts of a table
)

// text is a state as its file keeps it: frames of its numbers and keys, one behind the other. How many tables there are stands ahead of them, so that no state's text begins another one's.
func text(s State) string {
	l := []string{strconv.Itoa(s.Next), strconv.Itoa(s.Log), strconv.Itoa(len(s.Files))}
	for _, f := range s.Files {
		l = append(l, strconv.Itoa(f.N), strconv.Itoa(f.Level), strconv.Itoa(f.Count), f.First, f.Last)
	}
	var b strings.Builder
	for _, body := range l {
		frame, _ := sum.Frame(body)
		b.WriteString(frame)
	}
	return b.String()
}

// read is the state that a text keeps, if it does; else some state: of no text that of a new manifest.
func read(s string) State {
	l := slices.Collect(sum.All(s))
	if len(l) < head {
		return State{Next: 1}
	}
	r := State{Next: number(l[0]), Log: number(l[1])}
	for l = l[head:]; len(l) >= row; l = l[row:] {
		r.Files = append(r.Files, File{number(l[0]), number(l[1]), number(l[2]), l[3], l[4]})
	}
	return r
}

// number is the number that a text is, if it is one.
func number(s string) int {
	n, _ := strconv.Atoi(s)
	return n
}

// Manifest keeps a state on a disk.
type Manifest struct {
	disk *disk.Disk
	text string // what the file main has; none, if there is no such file
	dead bool
}

// made says whether there is a manifest, and Open made it.
func (m *Manifest) made() bool { return m != nil && m.disk != nil }

// Open opens one.
func Open(d *disk.Disk) (*Manifest, api.Errno) {
	if d == nil {
		return nil, api.ErrNil
	}
	if d.Down() {
		return nil, api.ErrDown
	}
	m := &Manifest{disk: d}
	if e := m.find(); e != api.OK {
		return nil, e
	}
	if e := m.settle(); e != api.OK {
		return nil, e
	}
	return m, api.OK
}

// find reads what the manifest's files have.
func (m *Manifest) find() api.Errno {
	for _, name := range m.disk.List() {
		if strings.HasPrefix(name, ours) && name != main && name != spare {
			return api.ErrBad
		}
	}
	s, e := m.disk.Read(main)
	if e == api.ErrNone {
		return api.OK
	}
	if e != api.OK {
		return e
	}
	if r := read(s); text(r) != s || Check(r) != api.OK {
		return api.ErrBad
	}
	m.text = s
	return api.OK
}

// settle takes away what was left where the power went, and makes what was read stay, which it does not yet if the file came from elsewhere.
func (m *Manifest) settle() api.Errno {
	if e := m.sweep(); e != api.OK {
		return e
	}
	if e := m.disk.Sync(main); e != api.ErrNone {
		return e
	}
	return api.OK
}

// sweep takes the spare file away, if there is one.
func (m *Manifest) sweep() api.Errno {
	if e := m.disk.Remove(spare); e != api.ErrNone {
		return e
	}
	return api.OK
}

// State is its state.
func (m *Manifest) State() State {
	if !m.made() {
		return State{}
	}
	return read(m.text)
}

// Commit changes the state.
func (m *Manifest) Commit(e Edit) api.Errno {
	if !m.made() {
		return api.ErrNil
	}
	if m.dead = m.dead || m.lost(); m.dead {
		return api.ErrDown
	}
	s, bad := Apply(m.State(), e)
	if bad == api.OK {
		bad = m.keep(text(s))
	}
	m.dead = bad == api.ErrDown
	return bad
}

// lost says whether the file is another one than the manifest left: it was cut, or another manifest of the same disk wrote it. While the power is off that is not to be seen.
func (m *Manifest) lost() bool {
	s, e := m.disk.Read(main)
	return e != api.ErrDown && s != m.text
}

// keep puts a file with a state's text into the place of the one that there is. All of it is synced ahead of that, so that the file is either of them, whole, wherever the power goes.
func (m *Manifest) keep(text string) api.Errno {
	if e := m.sweep(); e != api.OK {
		return e
	}
	if e := m.disk.Create(spare); e != api.OK {
		return e
	}
	e := m.disk.Append(spare, text)
	if e == api.OK {
		e = m.disk.Sync(spare)
	}
	if e == api.OK {
		e = m.disk.Rename(spare, main)
	}
	if e == api.OK {
		m.text = text
		return e
	}
	if gone := m.sweep(); gone != api.OK {
		return gone
	}
	return e
}
