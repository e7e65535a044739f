package merge

import (
	"container/heap"
	"iter"
)

// merging is one going over of ways that are put together.
type merging[T any] struct {
	key   func(T) string
	begun []*way[T]
	row   row[T]
}

func (m *merging[T]) begin(ways []iter.Seq[T]) {
	for place, seq := range ways {
		w := begin(place, seq)
		m.begun = append(m.begun, w)
		m.take(w)
	}
}

// take waits for a way's next item. A way that has none stands in the row no more.
func (m *merging[T]) take(w *way[T]) {
	item, ok := <-w.items
	if !ok {
		return
	}
	w.item, w.key = item, m.key(item)
	heap.Push(&m.row, w)
}

// tell tells items as long as there are some and more are wanted. The ways go on behind that, lest more be taken of them than is asked for.
func (m *merging[T]) tell(yield func(T) bool) {
	for len(m.row) > 0 && yield(m.row[0].item) {
		for _, w := range m.firsts() {
			w.goOn <- struct{}{}
			m.take(w)
		}
	}
}

// firsts takes all ways out of the row whose next items have the least key: all of them before one goes on, for its next item may have that key again.
func (m *merging[T]) firsts() []*way[T] {
	var l []*way[T]
	for key := m.row[0].key; len(m.row) > 0 && m.row[0].key == key; {
		l = append(l, heap.Pop(&m.row).(*way[T]))
	}
	return l
}

// leave leaves the ways one behind the other: two that end at the same time could get into each other's way.
func (m *merging[T]) leave() {
	for _, w := range m.begun {
		w.leave()
	}
}

// row is a heap of the ways that have a next item: the least key is ahead, and of several ways with one key the first way.
type row[T any] []*way[T]

func (r row[T]) Len() int { return len(r) }

func (r row[T]) Less(i, j int) bool {
	if r[i].key == r[j].key {
		return r[i].place < r[j].place
	}
	return r[i].key < r[j].key
}

func (r row[T]) Swap(i, j int) { r[i], r[j] = r[j], r[i] }

func (r *row[T]) Push(w any) { *r = append(*r, w.(*way[T])) }

func (r *row[T]) Pop() any {
	last := len(*r) - 1
	w := (*r)[last]
	*r = (*r)[:last]
	return w
}
