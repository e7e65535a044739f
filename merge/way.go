package merge

import "iter"

// way is a sequence that was begun. It goes on in a goroutine of its own, but only while it is waited for: several can be under way at once, and still no two things are done at the same time.
type way[T any] struct {
	place int
	items chan T
	goOn  chan struct{}
	item  T // the next one
	key   string
}

// begin begins a sequence, which stands at a place among others.
func begin[T any](place int, seq iter.Seq[T]) *way[T] {
	w := &way[T]{place: place, items: make(chan T), goOn: make(chan struct{})}
	go w.handOut(seq)
	return w
}

// handOut hands out an item whenever it is let go on, till it is left.
func (w *way[T]) handOut(seq iter.Seq[T]) {
	defer close(w.items)
	for item := range calm(seq) {
		w.items <- item
		if _, more := <-w.goOn; !more {
			return
		}
	}
}

// leave comes back when the sequence has ended.
func (w *way[T]) leave() {
	close(w.goOn)
	for range w.items {
	}
}
