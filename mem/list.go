package mem

import "iter"

// top is how high a tower may be.
const top = 12

// ordered is what items have that stand in an order: compare is below 0, if the item stands ahead of x, and
// 0, if both have the same place.
type ordered[T any] interface{ compare(x T) int }

// list is a skip list of items, one for each place. It needs no making.
type list[T ordered[T]] struct {
	head  node[T] // has no item; its tower is as high as the highest one
	count int
	blank *change[T] // the next change
}

// node has an item, and a tower: for each of its levels the next node that has this level too.
type node[T any] struct {
	item   T
	number int // how many nodes came ahead of it
	next   []*node[T]
}

// after tells the next node of all.
func (n *node[T]) after() *node[T] {
	if len(n.next) == 0 {
		return nil
	}
	return n.next[0]
}

func (l *list[T]) height() int { return len(l.head.next) }

// path tells, for each level, the last node ahead of an item's place.
func (l *list[T]) path(item T) [top]*node[T] {
	var path [top]*node[T]
	n := &l.head
	for level := top - 1; level >= 0; level-- {
		for level < len(n.next) && n.next[level] != nil && n.next[level].item.compare(item) < 0 {
			n = n.next[level]
		}
		path[level] = n
	}
	return path
}

// first tells the first node that does not stand ahead of an item's place; nil, if there is none.
func (l *list[T]) first(item T) *node[T] {
	return l.path(item)[0].after()
}

// put lays an item, and tells the one whose place and tower it has taken; false, if its place was free: then
// it gets a tower of that height.
func (l *list[T]) put(item T, height int) (T, bool) {
	path := l.path(item)
	if n := path[0].after(); n != nil && n.item.compare(item) == 0 {
		was := n.item
		l.replace(n, item)
		return was, true
	}
	l.insert(path, item, height)
	var none T
	return none, false
}

// replace lets a node have another item. What it had is a change: sequences that were made ahead of it go
// over that.
func (l *list[T]) replace(n *node[T], item T) {
	next := &change[T]{}
	*l.blank = change[T]{number: n.number, was: n.item, next: next}
	l.blank = next
	n.item = item
}

// insert lays a new node behind those of the path.
func (l *list[T]) insert(path [top]*node[T], item T, height int) {
	if l.blank == nil {
		l.blank = &change[T]{}
	}
	for l.height() < height {
		l.head.next = append(l.head.next, nil)
	}
	n := &node[T]{item: item, number: l.count, next: make([]*node[T], height)}
	for level := range n.next {
		n.next[level] = path[level].next[level]
		path[level].next[level] = n
	}
	l.count++
}

// from goes over the items from a place on, as they are now: nodes that come later are passed over, they have
// greater numbers.
func (l *list[T]) from(item T) iter.Seq[T] {
	first, count, since := l.first(item), l.count, l.blank
	return func(yield func(T) bool) {
		p := past[T]{was: map[int]T{}, next: since}
		for n := first; n != nil; n = n.after() {
			if n.number < count && !yield(p.item(n)) {
				return
			}
		}
	}
}
