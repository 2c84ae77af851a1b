package merge

import "cmp"

// source tells the next of its items, which are in order; false at their end, behind which it is not asked.
type source[T any] func() (T, bool)

// each is the source of a list's items.
func each[T any](l []T) source[T] {
	return func() (T, bool) {
		if len(l) == 0 {
			var none T
			return none, false
		}
		first := l[0]
		l = l[1:]
		return first, true
	}
}

// merged hands the items of all sources out in their order, until they end or yield answers false; of items
// that have the same place only that of the first source. What was told is passed by only when one more is
// wanted, for to pass it by is to ask its source.
func merged[T any](compare func(a, b T) int, sources []source[T], yield func(T) bool) {
	q := queueOf(compare, sources)
	for len(q.heads) > 0 {
		first := q.heads[0].item
		if !yield(first) {
			return
		}
		for len(q.heads) > 0 && compare(q.heads[0].item, first) == 0 {
			q.pass()
		}
	}
}

// head is the item that a source has told last, with the source, and its number among all.
type head[T any] struct {
	item   T
	source source[T]
	number int
}

// queue has the heads of all sources that have not ended, as a heap: the first of all is heads[0].
type queue[T any] struct {
	heads   []head[T]
	compare func(a, b T) int
}

func queueOf[T any](compare func(a, b T) int, sources []source[T]) *queue[T] {
	q := &queue[T]{compare: compare}
	for number, s := range sources {
		if item, is := s(); is {
			q.heads = append(q.heads, head[T]{item, s, number})
		}
	}
	for at := len(q.heads)/2 - 1; at >= 0; at-- {
		q.sink(at)
	}
	return q
}

// ahead tells whether the head at place i is to be told ahead of that at j.
func (q *queue[T]) ahead(i, j int) bool {
	a, b := q.heads[i], q.heads[j]
	return cmp.Or(q.compare(a.item, b.item), cmp.Compare(a.number, b.number)) < 0
}

// pass lets the next item of its source stand for the first head; none does, if the source ends.
func (q *queue[T]) pass() {
	first := &q.heads[0]
	item, is := first.source()
	if is {
		first.item = item
	} else {
		last := len(q.heads) - 1
		*first = q.heads[last]
		q.heads = q.heads[:last]
	}
	q.sink(0)
}

// sink moves a head down, past those that are to be told ahead of it.
func (q *queue[T]) sink(at int) {
	for {
		first := at
		for child := 2*at + 1; child <= 2*at+2 && child < len(q.heads); child++ {
			if q.ahead(child, first) {
				first = child
			}
		}
		if first == at {
			return
		}
		q.heads[at], q.heads[first] = q.heads[first], q.heads[at]
		at = first
	}
}
