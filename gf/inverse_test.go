package gf_test

import (
	"fmt"
	"math/rand"
	"testing"

	"glacier/api"
	"glacier/gf"
)

// undone asks that m has an inverse, by which it is Unit from either side (P1105).
func undone(t *testing.T, what string, m gf.Matrix) {
	t.Helper()
	inverse, err := m.Inverse()
	if err != api.OK || !gf.Right(inverse) {
		t.Errorf("%s: Inverse of %s: %s, %v", what, show(m), show(inverse), err)
		return
	}
	unit, err := gf.Unit(len(m))
	if err != api.OK {
		t.Fatalf("P1102: Unit(%d): %v", len(m), err)
	}
	right, err := m.Times(inverse)
	same(t, what+": times its inverse", right, err, unit)
	left, err := inverse.Times(m)
	same(t, what+": its inverse times it", left, err, unit)
}

func TestP1103InverseOfKnown(t *testing.T) {
	for _, c := range []struct{ m, want gf.Matrix }{
		{gf.Matrix{{1}}, gf.Matrix{{1}}},
		{gf.Matrix{{2}}, gf.Matrix{{0x8E}}},
		{gf.Matrix{{0, 1}, {1, 0}}, gf.Matrix{{0, 1}, {1, 0}}},
		{gf.Matrix{{0, 2}, {1, 0}}, gf.Matrix{{0, 1}, {0x8E, 0}}},
		{gf.Matrix{{1, 0}, {5, 1}}, gf.Matrix{{1, 0}, {5, 1}}},
		{gf.Matrix{{0, 1, 0}, {0, 0, 1}, {1, 0, 0}}, gf.Matrix{{0, 0, 1}, {1, 0, 0}, {0, 1, 0}}},
	} {
		got, err := c.m.Inverse()
		same(t, "P1103: Inverse of "+show(c.m), got, err, c.want)
	}
}

func TestP1103InverseOfNone(t *testing.T) {
	draw := rand.New(rand.NewSource(17))
	zero := make(gf.Matrix, 255)
	for i := range zero {
		zero[i] = make([]byte, 255)
	}
	for _, m := range []gf.Matrix{
		{{0}},
		{{0, 0}, {0, 0}},
		{{1, 2}, {1, 2}},
		{{1, 2}, {2, 4}},
		{{0, 1}, {0, 2}},
		{{0, 0}, {1, 2}},
		{{1, 2}, {0, 0}},
		{{1, 0, 0}, {0, 1, 0}, {1, 1, 0}},
		{{1, 2, 3}, {4, 5, 6}, {5, 7, 5}},
		zero,
	} {
		got, err := m.Inverse()
		refused(t, "P1103: Inverse of "+show(m), got, err, api.ErrSingle)
	}
	for _, n := range []int{3, 10, 128, 255} {
		m := mixedUp(t, draw, n)
		for j := range m[n-1] { // the last row is made of two others
			m[n-1][j] = modelMul(9, m[0][j]) ^ modelMul(0xC3, m[n-2][j])
		}
		got, err := m.Inverse()
		refused(t, fmt.Sprintf("P1103: Inverse of %d rows, one made of others", n), got, err, api.ErrSingle)
		got, err = transposed(m).Inverse()
		refused(t, fmt.Sprintf("P1103: Inverse of %d columns, one made of others", n), got, err, api.ErrSingle)
	}
}

func TestP1103InverseOfSizes(t *testing.T) {
	draw := rand.New(rand.NewSource(18))
	for _, c := range [][2]int{{1, 2}, {2, 1}, {2, 3}, {3, 2}, {254, 255}, {255, 254}, {1, 255}, {255, 1}} {
		got, err := sized(draw, c[0], c[1]).Inverse()
		refused(t, fmt.Sprintf("P1103: Inverse of %d rows of %d", c[0], c[1]), got, err, api.ErrArg)
		zeros := few(draw, c[0], c[1], 1)
		got, err = zeros.Inverse()
		refused(t, fmt.Sprintf("P6: Inverse of %d rows of %d zeros", c[0], c[1]), got, err, api.ErrArg)
	}
}

// TestP1103InverseOfOrders: where rows of Unit are put in any order, the inverse is the other way round.
func TestP1103InverseOfOrders(t *testing.T) {
	draw := rand.New(rand.NewSource(19))
	for _, n := range []int{1, 2, 3, 4, 5, 20, 255} {
		unit, _ := gf.Unit(n)
		for range 30 {
			m, _ := unit.Rows(draw.Perm(n)...)
			got, err := m.Inverse()
			same(t, "P1103: Inverse of "+show(m), got, err, transposed(m))
		}
	}
}

// mixedUp tells a matrix that has an inverse, but may have 0 wherever one looks first.
func mixedUp(t *testing.T, draw *rand.Rand, n int) gf.Matrix {
	t.Helper()
	lower, upper := sized(draw, n, n), sized(draw, n, n)
	for i := range n {
		for j := range n {
			switch {
			case i == j:
				lower[i][j], upper[i][j] = 1+lower[i][j]%255, 1+upper[i][j]%255
			case i < j:
				lower[i][j] = 0
			default:
				upper[i][j] = 0
			}
		}
	}
	m, err := lower.Times(upper)
	if err != api.OK {
		t.Fatalf("P1103: Times of %d rows: %v", n, err)
	}
	m, err = m.Rows(draw.Perm(n)...)
	if err != api.OK {
		t.Fatalf("P1103: Rows of %d: %v", n, err)
	}
	return m
}

func TestP1105InverseOfAnySize(t *testing.T) {
	draw := rand.New(rand.NewSource(20))
	for n := 1; n <= 40; n++ {
		undone(t, fmt.Sprintf("P1105: %d rows", n), mixedUp(t, draw, n))
	}
	for _, n := range []int{64, 127, 128, 254, 255} {
		undone(t, fmt.Sprintf("P1105: %d rows", n), mixedUp(t, draw, n))
	}
}

// TestP1105FirstElement0: what stands first is 0, and more and more of the first row.
func TestP1105FirstElement0(t *testing.T) {
	c, err := gf.Cauchy(6, 6)
	if err != api.OK {
		t.Fatalf("P1102: %v", err)
	}
	for _, turned := range []bool{false, true} {
		for n := range 6 {
			m, _ := c.Rows(0, 1, 2, 3, 4, 5)
			for j := range n + 1 {
				m[0][j] = 0
			}
			if turned {
				m = transposed(m)
			}
			if _, is := modelMatrixInverse(m); is {
				undone(t, "P1105: with 0 ahead", m)
			} else {
				got, err := m.Inverse()
				refused(t, "P1103: with 0 ahead", got, err, api.ErrSingle)
			}
		}
	}
}

// part tells the part of m of some rows and columns.
func part(m gf.Matrix, rows, columns []int) gf.Matrix {
	var p gf.Matrix
	for _, i := range rows {
		var row []byte
		for _, j := range columns {
			row = append(row, m[i][j])
		}
		p = append(p, row)
	}
	return p
}

// chosen tells all ways to choose some of the numbers below n, in their order: those of the bits of a number.
func chosen(n int) [][]int {
	ways := make([][]int, 1<<n)
	for bits := range ways {
		for i := range n {
			if bits>>i&1 == 1 {
				ways[bits] = append(ways[bits], i)
			}
		}
	}
	return ways
}

func TestP1105AllSquarePartsOfCauchy(t *testing.T) {
	for _, size := range [][2]int{{4, 5}, {5, 4}, {6, 3}, {1, 7}, {7, 1}, {5, 5}} {
		m, err := gf.Cauchy(size[0], size[1])
		if err != api.OK {
			t.Fatalf("P1102: %v", err)
		}
		for _, rows := range chosen(size[0]) {
			for _, columns := range chosen(size[1]) {
				if len(rows) == len(columns) && len(rows) > 0 {
					undone(t, "P1105: a part of Cauchy", part(m, rows, columns))
				}
			}
		}
	}
}

func TestP1105SquarePartsOfGreatCauchy(t *testing.T) {
	draw := rand.New(rand.NewSource(21))
	for _, size := range [][2]int{{128, 128}, {1, 255}, {255, 1}, {100, 156}, {200, 56}, {20, 30}} {
		m, err := gf.Cauchy(size[0], size[1])
		if err != api.OK {
			t.Fatalf("P1102: %v", err)
		}
		least := min(size[0], size[1])
		for _, n := range []int{1, 1 + draw.Intn(least), 1 + draw.Intn(least), least} {
			undone(t, fmt.Sprintf("P1105: %d rows of Cauchy%v", n, size), part(m, draw.Perm(size[0])[:n], draw.Perm(size[1])[:n]))
		}
	}
}

// below tells Unit with Cauchy's rows below, as a code of k and m has it.
func below(t *testing.T, k, m int) gf.Matrix {
	t.Helper()
	unit, err := gf.Unit(k)
	if err != api.OK {
		t.Fatalf("P1102: Unit(%d): %v", k, err)
	}
	cauchy, err := gf.Cauchy(m, k)
	if err != api.OK {
		t.Fatalf("P1102: Cauchy(%d, %d): %v", m, k, err)
	}
	return append(unit, cauchy...)
}

func TestP1105AllPartsOfUnitWithCauchyBelow(t *testing.T) {
	for _, size := range [][2]int{{1, 1}, {1, 5}, {2, 1}, {3, 3}, {4, 4}, {5, 3}, {6, 2}, {3, 6}} {
		k, m := size[0], size[1]
		all := below(t, k, m)
		for _, rows := range chosen(k + m) {
			if len(rows) != k {
				continue
			}
			p, err := all.Rows(rows...)
			if err != api.OK {
				t.Fatalf("P1103: Rows(%v): %v", rows, err)
			}
			undone(t, "P1105: a part of Unit with Cauchy below", p)
		}
	}
}

func TestP1105PartsOfGreatUnitWithCauchyBelow(t *testing.T) {
	draw := rand.New(rand.NewSource(22))
	for _, size := range [][2]int{{128, 127}, {1, 254}, {254, 1}, {200, 55}, {10, 4}, {20, 20}} {
		k, m := size[0], size[1]
		all := below(t, k, m)
		for range 4 {
			p, err := all.Rows(draw.Perm(k + m)[:k]...)
			if err != api.OK {
				t.Fatalf("P1103: Rows: %v", err)
			}
			undone(t, fmt.Sprintf("P1105: a part of Unit(%d) with %d rows below", k, m), p)
		}
		// The last rows, so that as many of Cauchy's as may be are among them.
		undone(t, fmt.Sprintf("P1105: the last rows of Unit(%d) with %d rows below", k, m), all[m:])
	}
}

// TestP1105AlikeRows: a row twice leaves no inverse.
func TestP1105AlikeRows(t *testing.T) {
	for _, rows := range [][]int{{0, 0, 1}, {1, 0, 1}, {0, 3, 3}, {4, 2, 4}, {5, 5, 5}} {
		p, err := below(t, 3, 3).Rows(rows...)
		if err != api.OK {
			t.Fatalf("P1103: Rows(%v): %v", rows, err)
		}
		got, err := p.Inverse()
		refused(t, fmt.Sprintf("P1103: Inverse of rows %v", rows), got, err, api.ErrSingle)
	}
}

// TestP1105InverseOfInverse is the matrix again.
func TestP1105InverseOfInverse(t *testing.T) {
	draw := rand.New(rand.NewSource(23))
	for _, n := range []int{1, 2, 3, 9, 30} {
		m := mixedUp(t, draw, n)
		once, err := m.Inverse()
		if err != api.OK {
			t.Fatalf("P1103: %v", err)
		}
		twice, err := once.Inverse()
		same(t, "P1105: the inverse's inverse", twice, err, m)
	}
}
