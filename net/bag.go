package net

import "slices"

// maxBound is the most messages that a link's bag may be given room for.
const maxBound = 1 << 16

// bag has the messages of a link, in the order in which they came. Texts cannot change: one that was sent
// to many, or doubled, need not be copied until it is delivered.
type bag []string

// meant tells what finds, in a bag that has messages, the number of the one that a pick means.
func meant(pick int) func(b bag) int {
	return func(b bag) int { return max(pick, 0) % len(b) }
}

// lay lays a message down as the last one; false, if the bag has bound messages.
func (b *bag) lay(text string, bound int) bool {
	if len(*b) >= bound {
		return false
	}
	*b = append(*b, text)
	return true
}

// take takes a message out. The shorter side closes the gap, so that the first ones of a long bag are
// taken as quickly as the last ones; what falls free is cleared, or its text would be kept.
func (b *bag) take(i int) string {
	all := *b
	text := all[i]
	switch {
	case len(all) == 1:
		*b = nil
	case i < len(all)/2:
		copy(all[1:i+1], all[:i])
		all[0] = ""
		*b = all[1:]
	default:
		*b = slices.Delete(all, i, i+1)
	}
	return text
}
