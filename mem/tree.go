package mem

import "strings"

const (
	most  = 3 // how often as heavy as the other side a side of a tree may be
	inner = 2 // how often as heavy as its outer part a heavy side's inner part may be, for one turn to do
)

// item is a key with its value.
type item[V any] struct {
	key string
	v   V
}

// node is a tree of items: those left of its own have lesser keys, those right of it greater ones. No node changes once it is made, for twins, and what From gave, have nodes in common; a change makes those anew that lead to it, which is why an item, great as it may be, stands apart.
type node[V any] struct {
	*item[V]
	left, right *node[V]
	size        int
}

// join is a tree of two with an item between.
func join[V any](left *node[V], i *item[V], right *node[V]) *node[V] {
	return &node[V]{i, left, right, left.count() + 1 + right.count()}
}

// count is how many items there are.
func (n *node[V]) count() int {
	if n == nil {
		return 0
	}
	return n.size
}

// weight is one more than the count: none, too, weighs something.
func (n *node[V]) weight() int { return n.count() + 1 }

// balance is join of two trees of which one has got an item, or lost one, since neither was too heavy for the other. With 3 and 2 one turn makes that good, whatever the trees.
func balance[V any](left *node[V], i *item[V], right *node[V]) *node[V] {
	if right.weight() > most*left.weight() {
		return turnLeft(left, i, right)
	}
	if left.weight() > most*right.weight() {
		return turnRight(left, i, right)
	}
	return join(left, i, right)
}

// turnLeft is join with a part of the right tree gone over to the left.
func turnLeft[V any](left *node[V], i *item[V], right *node[V]) *node[V] {
	m := right.left
	if m.weight() < inner*right.right.weight() {
		return join(join(left, i, m), right.item, right.right)
	}
	return join(join(left, i, m.left), m.item, join(m.right, right.item, right.right))
}

// turnRight is join with a part of the left tree gone over to the right.
func turnRight[V any](left *node[V], i *item[V], right *node[V]) *node[V] {
	m := left.right
	if m.weight() < inner*left.left.weight() {
		return join(left.left, left.item, join(m, i, right))
	}
	return join(join(left.left, left.item, m.left), m.item, join(m.right, i, right))
}

// with is the tree with an item, instead of the one that has its key, if one does.
func (n *node[V]) with(i *item[V]) *node[V] {
	switch {
	case n == nil:
		return join(nil, i, nil)
	case i.key < n.key:
		return balance(n.left.with(i), n.item, n.right)
	case i.key > n.key:
		return balance(n.left, n.item, n.right.with(i))
	}
	return join(n.left, i, n.right)
}

// without is the tree without the item that has a key.
func (n *node[V]) without(key string) *node[V] {
	switch {
	case n == nil:
		return nil
	case key < n.key:
		return balance(n.left.without(key), n.item, n.right)
	case key > n.key:
		return balance(n.left, n.item, n.right.without(key))
	}
	return both(n.left, n.right)
}

// both is a tree of two.
func both[V any](left, right *node[V]) *node[V] {
	if right == nil {
		return left
	}
	i := right.first()
	return balance(left, i, right.without(i.key))
}

// first is the item with the least key of a tree that has one.
func (n *node[V]) first() *item[V] {
	for n.left != nil {
		n = n.left
	}
	return n.item
}

// floor is the item with the greatest key that is not above one; nil, if there is none.
func (n *node[V]) floor(key string) *item[V] {
	var best *item[V]
	for n != nil {
		if n.key > key {
			n = n.left
		} else {
			best, n = n.item, n.right
		}
	}
	return best
}

// tell hands out the items whose keys are not below one, till no more are wanted, and says whether more are.
func (n *node[V]) tell(key string, yield func(string, V) bool) bool {
	if n == nil {
		return true
	}
	if n.key < key {
		return n.right.tell(key, yield)
	}
	return n.left.tell(key, yield) && yield(strings.Clone(n.key), n.v) && n.right.tell(key, yield)
}
