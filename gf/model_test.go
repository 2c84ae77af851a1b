package gf_test

import (
	"math/rand"
	"testing"

	"glacier/api"
	"glacier/gf"
)

// polynomial tells the numbers before x to the 0, 1, .. of an element.
func polynomial(a byte) []int {
	p := make([]int, 8)
	for i := range p {
		p[i] = int(a) >> i % 2
	}
	return p
}

// modelMul goes by the chapter's words: it multiplies as polynomials over the field of two, and divides by
// x^8 + x^4 + x^3 + x^2 + 1 with a rest.
func modelMul(a, b byte) byte {
	product := make([]int, 15)
	for i, x := range polynomial(a) {
		for j, y := range polynomial(b) {
			product[i+j] = (product[i+j] + x*y) % 2
		}
	}
	for top := 14; top >= 8; top-- {
		if product[top] == 1 {
			for _, power := range []int{8, 4, 3, 2, 0} {
				product[top-8+power] = (product[top-8+power] + 1) % 2
			}
		}
	}
	var rest byte
	for i, x := range product[:8] {
		rest += byte(x) << i
	}
	return rest
}

// modelInverse tells the element that makes 1 of a.
func modelInverse(a byte) byte {
	for x := range 256 {
		if modelMul(a, byte(x)) == 1 {
			return byte(x)
		}
	}
	return 0
}

// modelTimes tells the product by its words: each element is the sum of products of a row's and a column's.
func modelTimes(m, o gf.Matrix) gf.Matrix {
	product := make(gf.Matrix, len(m))
	for i := range m {
		product[i] = make([]byte, len(o[0]))
		for j := range product[i] {
			for k := range o {
				product[i][j] ^= modelMul(m[i][k], o[k][j])
			}
		}
	}
	return product
}

// without tells m without a row and a column.
func without(m gf.Matrix, row, column int) gf.Matrix {
	var rest gf.Matrix
	for i := range m {
		if i != row {
			rest = append(rest, append(append([]byte{}, m[i][:column]...), m[i][column+1:]...))
		}
	}
	return rest
}

// modelDeterminant goes along the first row; signs are nothing in this field.
func modelDeterminant(m gf.Matrix) byte {
	if len(m) == 0 {
		return 1
	}
	var sum byte
	for j, x := range m[0] {
		if x != 0 {
			sum ^= modelMul(x, modelDeterminant(without(m, 0, j)))
		}
	}
	return sum
}

// modelMatrixInverse goes by determinants; false, if m has none.
func modelMatrixInverse(m gf.Matrix) (gf.Matrix, bool) {
	over := modelInverse(modelDeterminant(m))
	if over == 0 {
		return nil, false
	}
	inverse := make(gf.Matrix, len(m))
	for i := range m {
		inverse[i] = make([]byte, len(m))
		for j := range m {
			inverse[i][j] = modelMul(over, modelDeterminant(without(m, j, i)))
		}
	}
	return inverse, true
}

// transposed tells m with rows as columns.
func transposed(m gf.Matrix) gf.Matrix {
	turned := make(gf.Matrix, len(m[0]))
	for j := range turned {
		for i := range m {
			turned[j] = append(turned[j], m[i][j])
		}
	}
	return turned
}

// asModelInverse asks for what the determinants say, and tells whether there is an inverse.
func asModelInverse(t *testing.T, m gf.Matrix) bool {
	t.Helper()
	got, err := m.Inverse()
	want, is := modelMatrixInverse(m)
	if is {
		same(t, "P1103: Inverse of "+show(m), got, err, want)
	} else {
		refused(t, "P1103: Inverse of "+show(m), got, err, api.ErrSingle)
	}
	return is
}

func TestP1103InverseByDeterminants(t *testing.T) {
	draw := rand.New(rand.NewSource(1103))
	has, not := 0, 0
	for range 4000 {
		n := 1 + draw.Intn(5)
		if asModelInverse(t, few(draw, n, n, 2+draw.Intn(4))) {
			has++
		} else {
			not++
		}
		if t.Failed() {
			return
		}
	}
	if has < 1000 || not < 1000 {
		t.Errorf("%d matrices had an inverse, %d had none", has, not)
	}
}

// TestP1103InverseOfAllSmall goes over all matrices of two rows whose elements are among a few.
func TestP1103InverseOfAllSmall(t *testing.T) {
	elements := []byte{0, 1, 2, 3, 0x80, 0x8E, 0xFF}
	for _, a := range elements {
		for _, b := range elements {
			for _, c := range elements {
				for _, d := range elements {
					asModelInverse(t, gf.Matrix{{a, b}, {c, d}})
				}
			}
		}
	}
	for a := range 256 {
		asModelInverse(t, gf.Matrix{{byte(a)}})
	}
}
