package mem

// change is that a node has got another item: its number, and what it had. The last one of a row is blank,
// and filled by the next change. Each leads to the next one, none to those ahead of it: so a change is kept
// only as long as a sequence is that was made ahead of it, and the list keeps none.
type change[T any] struct {
	number int
	was    T
	next   *change[T]
}

// past tells the items of nodes as they were ahead of a row of changes.
type past[T any] struct {
	was  map[int]T // by the nodes' numbers
	next *change[T]
}

// item tells what a node had. Changes are taken in here, not once for all: there may be more of them at each
// step of a sequence. Of several of a node the first one has what is wanted.
func (p *past[T]) item(n *node[T]) T {
	for ; p.next.next != nil; p.next = p.next.next {
		if _, is := p.was[p.next.number]; !is {
			p.was[p.next.number] = p.next.was
		}
	}
	if was, is := p.was[n.number]; is {
		return was
	}
	return n.item
}
