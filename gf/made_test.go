package gf_test

import (
	"math"
	"math/rand"
	"testing"

	"glacier/api"
	"glacier/gf"
)

func TestP1102Right(t *testing.T) {
	draw := rand.New(rand.NewSource(1102))
	for _, rows := range []int{1, 2, 3, 254, 255} {
		for _, columns := range []int{1, 2, 3, 254, 255} {
			if !gf.Right(sized(draw, rows, columns)) {
				t.Errorf("P1102: %d rows of %d are not right", rows, columns)
			}
		}
	}
	for what, m := range wrong() {
		if gf.Right(m) {
			t.Errorf("P1102: right: %s", what)
		}
	}
}

// TestP1102RightLooksAtEachRow spoils one row's length, wherever it is.
func TestP1102RightLooksAtEachRow(t *testing.T) {
	draw := rand.New(rand.NewSource(1))
	for _, rows := range []int{2, 3, 7, 255} {
		for _, columns := range []int{2, 7, 254} {
			for at := range rows {
				for _, length := range []int{0, columns - 1, columns + 1, 256} {
					m := sized(draw, rows, columns)
					m[at] = make([]byte, length)
					if gf.Right(m) {
						t.Errorf("P1102: right: %d rows of %d, but for row %d of %d", rows, columns, at, length)
					}
				}
			}
		}
	}
}

func TestP1102Unit(t *testing.T) {
	for n := 1; n <= 255; n++ {
		u, err := gf.Unit(n)
		if err != api.OK || len(u) != n || !gf.Right(u) || len(u[0]) != n {
			t.Fatalf("P1102: Unit(%d): %s, %v", n, show(u), err)
		}
		for i, row := range u {
			for j, x := range row {
				if (x != 0) != (i == j) || x > 1 {
					t.Fatalf("P1102: Unit(%d): row %d, column %d: %#x", n, i, j, x)
				}
			}
		}
	}
	for _, n := range []int{0, -1, -255, -256, math.MinInt, 256, 257, 511, 1 << 16, 1<<32 + 1, math.MaxInt} {
		u, err := gf.Unit(n)
		refused(t, "P1102: Unit", u, err, api.ErrArg)
	}
}

func TestP1102CauchyExample(t *testing.T) {
	m, err := gf.Cauchy(1, 2)
	same(t, "P1102: Cauchy(1, 2)", m, err, gf.Matrix{{0x8E, 0xF4}})
	m, err = gf.Cauchy(1, 1)
	same(t, "P1102: Cauchy(1, 1)", m, err, gf.Matrix{{1}})
	m, err = gf.Cauchy(2, 1)
	same(t, "P1102: Cauchy(2, 1)", m, err, gf.Matrix{{1}, {0x8E}})
}

func TestP1102Cauchy(t *testing.T) {
	for _, c := range [][2]int{{1, 1}, {1, 255}, {255, 1}, {128, 128}, {2, 254}, {254, 2}, {100, 156}, {127, 128}, {3, 5}, {5, 3}, {6, 6}, {1, 254}} {
		rows, columns := c[0], c[1]
		m, err := gf.Cauchy(rows, columns)
		if err != api.OK || len(m) != rows || !gf.Right(m) || len(m[0]) != columns {
			t.Fatalf("P1102: Cauchy(%d, %d): %s, %v", rows, columns, show(m), err)
		}
		for i, row := range m {
			for j, x := range row {
				if modelMul(x, byte((columns+i)^j)) != 1 {
					t.Fatalf("P1102: Cauchy(%d, %d): row %d, column %d: %#x", rows, columns, i, j, x)
				}
			}
		}
	}
}

func TestP1102CauchyOfAllSizes(t *testing.T) {
	for rows := -1; rows <= 257; rows++ {
		for columns := -1; columns <= 257; columns++ {
			if rows > 3 && rows < 250 && columns > 3 && columns < 250 && rows+columns != 256 && rows+columns != 257 {
				continue
			}
			m, err := gf.Cauchy(rows, columns)
			if rows < 1 || columns < 1 || rows+columns > 256 {
				refused(t, "P1102: Cauchy", m, err, api.ErrArg)
			} else if err != api.OK || len(m) != rows || len(m[0]) != columns {
				t.Errorf("P1102: Cauchy(%d, %d): %s, %v", rows, columns, show(m), err)
			}
		}
	}
}

func TestP1102CauchyOfGreatInts(t *testing.T) {
	great := []int{math.MaxInt, math.MaxInt - 1, math.MaxInt - 255, math.MaxInt/2 + 1, 1 << 32, 1<<32 + 1, 257, 256, math.MinInt, math.MinInt + 1, math.MinInt + 257, -1, 0}
	for _, a := range great {
		for _, b := range append(great, 1, 2, 128, 255) {
			m, err := gf.Cauchy(a, b)
			refused(t, "P1102: Cauchy", m, err, api.ErrArg)
			m, err = gf.Cauchy(b, a)
			refused(t, "P1102: Cauchy", m, err, api.ErrArg)
		}
	}
}
