package value

import "redress/api"

// row is a row of parts of one type that are to come, one behind the other.
type row struct {
	t     []api.Sort
	times int
	depth int // of each: how many parts stand around it, and itself
}

// walk goes through a value's parts in order, with what is to come in a list of its own: values may hold one another too deep for calls that do.
type walk struct {
	find  finder
	rows  []row // the next one last
	depth int   // of the deepest part so far
	size  int
}

// fits is the first thing by which a value is none of a right type, or beyond the bounds.
func (find finder) fits(t []api.Sort, v api.Value) api.Errno {
	w := walk{find: find}
	w.wait(t, 1, 1)
	for _, n := range v {
		if !w.take(n) {
			return api.ErrValue
		}
	}
	switch {
	case len(w.rows) > 0:
		return api.ErrValue
	case w.depth > api.MaxDepth:
		return api.ErrDeep
	case len(v) > api.MaxNodes || w.size > api.MaxValue:
		return api.ErrLong
	}
	return api.OK
}

// wait puts a row ahead of what is to come.
func (w *walk) wait(t []api.Sort, times, depth int) {
	if times > 0 {
		w.rows = append(w.rows, row{t, times, depth})
	}
}

// next is the type of the next part, and its depth.
func (w *walk) next() (t []api.Sort, depth int, ok bool) {
	last := len(w.rows) - 1
	if last < 0 {
		return nil, 0, false
	}
	r := &w.rows[last]
	r.times--
	t, depth = r.t, r.depth
	if r.times == 0 {
		w.rows = w.rows[:last]
	}
	return t, depth, true
}

// take goes on by a part, if the next one may be that.
func (w *walk) take(n api.Node) bool {
	t, depth, ok := w.next()
	if !ok || !w.find.is(n, t) {
		return false
	}
	w.depth = max(w.depth, depth)
	w.size += 1 + len(n.Text)
	w.open(n, t, depth+1)
	return true
}

// is says whether a part is of a type, whatever its own parts are.
func (find finder) is(n api.Node, t []api.Sort) bool {
	switch t[0].Kind {
	case api.TNone:
		return n == api.Node{Kind: api.VNone}
	case api.TBool:
		return n == api.Node{Kind: api.VBool, Int: n.Int} && (n.Int == 0 || n.Int == 1)
	case api.TInt:
		return n == api.Node{Kind: api.VInt, Int: n.Int}
	case api.TText:
		return n == api.Node{Kind: api.VText, Text: n.Text}
	case api.TList:
		return n == api.Node{Kind: api.VList, Kids: n.Kids} && n.Kids >= 0
	case api.TOpt:
		return n == api.Node{Kind: api.VOpt, Kids: n.Kids} && (n.Kids == 0 || n.Kids == 1)
	}
	r, _ := find(t[0].Name)
	if r.Choice {
		return n == api.Node{Kind: api.VChoice, Int: n.Int, Kids: 1} && n.Int >= 0 && n.Int < int64(len(r.Fields))
	}
	return n == api.Node{Kind: api.VRecord, Kids: len(r.Fields)}
}

// open waits for the parts of a part that is of a type.
func (w *walk) open(n api.Node, t []api.Sort, depth int) {
	switch n.Kind {
	case api.VList, api.VOpt:
		w.wait(t[1:], n.Kids, depth)
	case api.VRecord:
		r, _ := w.find(t[0].Name)
		for i := len(r.Fields) - 1; i >= 0; i-- {
			w.wait(r.Fields[i].Type, 1, depth)
		}
	case api.VChoice:
		r, _ := w.find(t[0].Name)
		w.wait(r.Fields[n.Int].Type, 1, depth)
	}
}
