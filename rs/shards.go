package rs

import (
	"slices"

	"glacier/api"
	"glacier/gf"
)

// columns is how many a matrix has at most: longer shards are multiplied piece by piece.
const columns = 255

// cauchy tells the rows by which the last m shards are made of the first k.
func (c *Code) cauchy() gf.Matrix {
	if c.m == 0 { // there is no matrix without rows
		return nil
	}
	return sure(gf.Cauchy(c.m, c.k))
}

func (c *Code) parity(shards [][]byte) [][]byte { return mix(c.cauchy(), shards) }

// filled tells the first n shards, with those in the places of the missing that are made of the first k that
// are there. These, as they are, are still memory of who handed them in.
func (c *Code) filled(n int, shards [][]byte) [][]byte {
	from := c.sources(shards)
	all := slices.Clone(shards[:n])
	missing := gaps(all)
	for i, made := range mix(c.rowsOf(missing, from), picked(shards, from)) {
		all[missing[i]] = made
	}
	return all
}

// sources tells the numbers of the first k shards that are there. Those that hold bytes stand in their own
// places, so most rows of the matrix that is inverted are Unit's, which takes a small part of the time.
func (c *Code) sources(shards [][]byte) []int {
	from := make([]int, c.k)
	next := c.k
	for i := range from {
		from[i] = i
		if isMissing(shards[i]) {
			from[i] = nextThere(shards, next)
			next = from[i] + 1
		}
	}
	return from
}

// nextThere tells the first number from n on whose shard is there.
func nextThere(shards [][]byte, n int) int {
	for n < len(shards) && isMissing(shards[n]) {
		n++
	}
	refuseIf(n == len(shards), api.ErrLost)
	return n
}

func gaps(shards [][]byte) []int {
	var missing []int
	for i, s := range shards {
		if isMissing(s) {
			missing = append(missing, i)
		}
	}
	return missing
}

func picked(shards [][]byte, numbers []int) [][]byte {
	some := make([][]byte, len(numbers))
	for i, n := range numbers {
		some[i] = shards[n]
	}
	return some
}

// rowsOf tells the rows by which the shards of these numbers are made of those of the numbers from.
func (c *Code) rowsOf(numbers, from []int) gf.Matrix {
	if len(numbers) == 0 { // there is no matrix without rows
		return nil
	}
	all := append(sure(gf.Unit(c.k)), c.cauchy()...)
	back := sure(sure(all.Rows(from...)).Inverse())
	return sure(sure(all.Rows(numbers...)).Times(back))
}

// mix tells a list for each row: its byte i is the row times the bytes i of the shards.
func mix(rows gf.Matrix, shards [][]byte) [][]byte {
	if len(rows) == 0 {
		return nil
	}
	length := len(shards[0])
	lists := make([][]byte, len(rows))
	for j := range lists {
		lists[j] = make([]byte, length)
	}
	for at := 0; at < length; at += columns {
		for j, product := range sure(rows.Times(piece(shards, at))) {
			copy(lists[j][at:], product)
		}
	}
	return lists
}

// piece tells the bytes of the shards from a place on, as many as a matrix has columns.
func piece(shards [][]byte, at int) gf.Matrix {
	m := make(gf.Matrix, len(shards))
	for i, s := range shards {
		m[i] = s[at:min(at+columns, len(s))]
	}
	return m
}

// front tells the first size bytes of lists behind one another.
func front(size int, lists [][]byte) []byte {
	b := make([]byte, 0, size)
	for _, l := range lists {
		b = append(b, l[:min(len(l), size-len(b))]...)
	}
	return b
}
