package gf

import "bytes"

// most is how many rows, or columns, there may be.
const most = elements - 1

// step adds a row of a matrix, times an element, to a row.
type step func(to, from int, by byte)

func within(n int) bool { return 1 <= n && n <= most }

// unlikeFirst tells whether a row is not as long as the first one.
func (m Matrix) unlikeFirst(row []byte) bool { return len(row) != len(m[0]) }

// lacks tells whether n is no row's number.
func (m Matrix) lacks(n int) bool { return n < 0 || n >= len(m) }

// zeros tells the matrix of that size whose elements are all 0. Each row is memory of its own (P2).
func zeros(rows, columns int) Matrix {
	m := make(Matrix, rows)
	for i := range m {
		m[i] = make([]byte, columns)
	}
	return m
}

// each tells the matrix whose rows are made of parts, one of each.
func each[T any](parts []T, row func(T) []byte) Matrix {
	m := make(Matrix, len(parts))
	for i, p := range parts {
		m[i] = row(p)
	}
	return m
}

// row tells a copy of the row of that number.
func (m Matrix) row(n int) []byte { return bytes.Clone(m[n]) }

// mixed tells the sum of all rows, each times its factor.
func (m Matrix) mixed(factors []byte) []byte {
	sum := make([]byte, len(m[0]))
	for i, by := range factors {
		addTimes(sum, m[i], by)
	}
	return sum
}

// addRow is a step of m.
func (m Matrix) addRow(to, from int, by byte) { addTimes(m[to], m[from], by) }

// addTimes adds a row, times an element, to a row, which may be the same one.
func addTimes(to, from []byte, by byte) {
	if by == 0 { // as most elements of Unit are
		return
	}
	m := multiplesOf(by)
	for i, x := range from {
		to[i] = Add(to[i], m.times(x))
	}
}

// both tells the step that is one and then other.
func both(one, other step) step {
	return func(to, from int, by byte) {
		one(to, from, by)
		other(to, from, by)
	}
}

// clearColumn makes column i of m that of Unit, where those ahead of it are. It is false, if the rows from
// i on have nothing in the column: then m has no inverse.
func (m Matrix) clearColumn(i int, do step) bool {
	from := i
	for m[from][i] == 0 {
		from++
		if from == len(m) {
			return false
		}
	}
	// Row i has in its column p, row from has q: p + q * ((p + 1) / q) is 1, of the same row, too.
	by, _ := Div(Add(m[i][i], 1), m[from][i])
	do(i, from, by)
	for n := range m {
		if n != i {
			do(n, i, m[n][i])
		}
	}
	return true
}
