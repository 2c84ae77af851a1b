package gf_test

import (
	"bytes"
	"fmt"
	"math"
	"math/rand"
	"slices"
	"testing"

	"glacier/api"
	"glacier/gf"
)

func TestP1103Times(t *testing.T) {
	m := gf.Matrix{{1, 2}, {0x80, 0}, {3, 1}}
	o := gf.Matrix{{2, 1, 0, 5}, {1, 0x80, 0, 7}}
	got, err := m.Times(o)
	same(t, "P1103: Times", got, err, gf.Matrix{{0, 0x1C, 0, 11}, {0x1D, 0x80, 0, modelMul(0x80, 5)}, {7, 0x83, 0, modelMul(3, 5) ^ 7}})
	one, err := gf.Matrix{{0x80}}.Times(gf.Matrix{{2}})
	same(t, "P1103: Times of one element", one, err, gf.Matrix{{0x1D}})
	row, err := gf.Matrix{{1, 2, 4}}.Times(gf.Matrix{{1}, {2}, {4}})
	same(t, "P1103: a row times a column", row, err, gf.Matrix{{1 ^ 4 ^ 16}})
	column, err := gf.Matrix{{1}, {2}}.Times(gf.Matrix{{1, 2, 4}})
	same(t, "P1103: a column times a row", column, err, gf.Matrix{{1, 2, 4}, {2, 4, 8}})
}

func TestP1103TimesByTheWords(t *testing.T) {
	draw := rand.New(rand.NewSource(11031))
	for range 400 {
		rows, both, columns := 1+draw.Intn(9), 1+draw.Intn(9), 1+draw.Intn(9)
		m, o := sized(draw, rows, both), few(draw, both, columns, 1+draw.Intn(255))
		got, err := m.Times(o)
		same(t, fmt.Sprintf("P1103: %s times %s", show(m), show(o)), got, err, modelTimes(m, o))
	}
}

// TestP1103TimesOfEachProduct multiplies each element by each.
func TestP1103TimesOfEachProduct(t *testing.T) {
	row := make([]byte, 255)
	for i := range row {
		row[i] = byte(i + 1)
	}
	for a := range 256 {
		got, err := gf.Matrix{{byte(a)}}.Times(gf.Matrix{row})
		want := make([]byte, 255)
		for i := range want {
			want[i] = modelMul(byte(a), byte(i+1))
		}
		same(t, fmt.Sprintf("P1103: %#x times a row", a), got, err, gf.Matrix{want})
	}
}

func TestP1103TimesOf255(t *testing.T) {
	draw := rand.New(rand.NewSource(255))
	m, o := sized(draw, 255, 255), sized(draw, 255, 255)
	got, err := m.Times(o)
	if err != api.OK || len(got) != 255 || len(got[254]) != 255 {
		t.Fatalf("P1103: %s, %v", show(got), err)
	}
	for _, at := range [][2]int{{0, 0}, {0, 254}, {254, 0}, {254, 254}, {100, 7}, {7, 100}} {
		want := modelTimes(m[at[0]:at[0]+1], o)[0][at[1]]
		if x := got[at[0]][at[1]]; x != want {
			t.Errorf("P1103: row %d, column %d: %#x; want %#x", at[0], at[1], x, want)
		}
	}
	thin, err := sized(draw, 255, 1).Times(sized(draw, 1, 255))
	if err != api.OK || len(thin) != 255 || len(thin[0]) != 255 {
		t.Errorf("P1103: %s, %v", show(thin), err)
	}
	dot, err := sized(draw, 1, 255).Times(sized(draw, 255, 1))
	if err != api.OK || len(dot) != 1 || len(dot[0]) != 1 {
		t.Errorf("P1103: %s, %v", show(dot), err)
	}
}

func TestP1103TimesOfSizes(t *testing.T) {
	draw := rand.New(rand.NewSource(2))
	sizes := []int{1, 2, 3, 4, 254, 255}
	for _, columns := range sizes {
		for _, rows := range sizes {
			got, err := sized(draw, 2, columns).Times(sized(draw, rows, 3))
			if columns != rows {
				refused(t, "P1103: Times", got, err, api.ErrArg)
			} else if err != api.OK || len(got) != 2 || len(got[0]) != 3 {
				t.Errorf("P1103: Times of %d columns and rows: %s, %v", rows, show(got), err)
			}
		}
	}
}

func TestP1103OfWhatIsNotRight(t *testing.T) {
	draw := rand.New(rand.NewSource(3))
	for what, m := range wrong() {
		for _, n := range []int{1, 2, 3, 255} {
			got, err := m.Times(sized(draw, n, n))
			refused(t, "P1103: Times: "+what, got, err, api.ErrArg)
			got, err = sized(draw, n, n).Times(m)
			refused(t, "P1103: Times by it: "+what, got, err, api.ErrArg)
		}
		got, err := m.Times(m)
		refused(t, "P1103: Times itself: "+what, got, err, api.ErrArg)
		for _, n := range []int{0, 1, 2, 3, 255, 256} {
			if v, err := m.Apply(make([]byte, n)); len(v) != 0 || err != api.ErrArg {
				t.Errorf("P1103: Apply to %d: %s: %x, %v; want arg", n, what, v, err)
			}
		}
		got, err = m.Inverse()
		refused(t, "P1103: Inverse: "+what, got, err, api.ErrArg)
		for _, n := range [][]int{nil, {0}, {1, 0}, {-1}, {math.MaxInt}} {
			got, err = m.Rows(n...)
			refused(t, "P1103: Rows: "+what, got, err, api.ErrArg)
		}
	}
}

func TestP1103Apply(t *testing.T) {
	for _, c := range []struct {
		m       gf.Matrix
		v, want []byte
	}{
		{gf.Matrix{{0x80}}, []byte{2}, []byte{0x1D}},
		{gf.Matrix{{1, 0}, {3, 2}}, []byte{5, 9}, []byte{5, 15 ^ 18}},
		{gf.Matrix{{1, 2, 4}}, []byte{1, 1, 1}, []byte{7}},
		{gf.Matrix{{1}, {2}, {0}}, []byte{0x80}, []byte{0x80, 0x1D, 0}},
		{gf.Matrix{{7, 8}}, []byte{0, 0}, []byte{0}},
	} {
		if got, err := c.m.Apply(c.v); err != api.OK || !bytes.Equal(got, c.want) {
			t.Errorf("P1103: %s applied to %x: %x, %v; want %x", show(c.m), c.v, got, err, c.want)
		}
	}
}

// TestP1103ApplyIsTimesAColumn holds Apply against the words of Times, of sizes up to 255.
func TestP1103ApplyIsTimesAColumn(t *testing.T) {
	draw := rand.New(rand.NewSource(4))
	for _, rows := range []int{1, 2, 5, 255} {
		for _, columns := range []int{1, 2, 7, 255} {
			m, column := sized(draw, rows, columns), sized(draw, columns, 1)
			v := transposed(column)[0]
			got, err := m.Apply(v)
			if want := transposed(modelTimes(m, column))[0]; err != api.OK || !bytes.Equal(got, want) {
				t.Errorf("P1103: %d rows of %d applied: %x, %v; want %x", rows, columns, got, err, want)
			}
			for _, n := range []int{0, columns - 1, columns + 1, rows, 256, 1000} {
				if n == columns {
					continue
				}
				if got, err := m.Apply(make([]byte, n)); err != api.ErrArg || len(got) != 0 {
					t.Errorf("P1103: %d rows of %d applied to %d: %x, %v; want arg", rows, columns, n, got, err)
				}
			}
		}
	}
	if got, err := (gf.Matrix{{1}}).Apply(nil); err != api.ErrArg || len(got) != 0 {
		t.Errorf("P1103: applied to nil: %x, %v; want arg", got, err)
	}
}

func TestP1103RowsOfKnown(t *testing.T) {
	m := gf.Matrix{{1, 2}, {3, 4}, {5, 6}}
	for _, c := range []struct {
		n    []int
		want gf.Matrix
	}{
		{[]int{0}, gf.Matrix{{1, 2}}},
		{[]int{2}, gf.Matrix{{5, 6}}},
		{[]int{0, 1, 2}, m},
		{[]int{2, 0, 1}, gf.Matrix{{5, 6}, {1, 2}, {3, 4}}},
		{[]int{1, 1}, gf.Matrix{{3, 4}, {3, 4}}},
		{[]int{2, 0, 2, 2}, gf.Matrix{{5, 6}, {1, 2}, {5, 6}, {5, 6}}},
	} {
		got, err := m.Rows(c.n...)
		same(t, fmt.Sprintf("P1103: Rows(%v)", c.n), got, err, c.want)
	}
	one, err := gf.Matrix{{9}}.Rows(0)
	same(t, "P1103: Rows(0) of one element", one, err, gf.Matrix{{9}})
}

func TestP1103RowsThatAreNot(t *testing.T) {
	m := gf.Matrix{{1, 2}, {3, 4}, {5, 6}}
	for _, n := range [][]int{nil, {}, {-1}, {3}, {0, 1, 3}, {3, 0}, {0, -1, 2}, {math.MinInt}, {math.MaxInt}, {256}, {1 << 32}, {1<<8 + 1}, {-255}} {
		got, err := m.Rows(n...)
		refused(t, fmt.Sprintf("P1103: Rows(%v)", n), got, err, api.ErrArg)
	}
	got, err := gf.Matrix{{1, 2, 3}}.Rows(1)
	refused(t, "P1103: a column's number", got, err, api.ErrArg)
}

func TestP1103RowsOfMany(t *testing.T) {
	draw := rand.New(rand.NewSource(5))
	m := sized(draw, 255, 3)
	order := draw.Perm(255)
	got, err := m.Rows(order...)
	if err != api.OK || len(got) != 255 {
		t.Fatalf("P1103: Rows of 255: %s, %v", show(got), err)
	}
	for i, n := range order {
		if !bytes.Equal(got[i], m[n]) {
			t.Errorf("P1103: row %d is %x; want %x", i, got[i], m[n])
		}
	}
	small := gf.Matrix{{7}}
	for _, count := range []int{254, 255, 256, 257, 1000} {
		got, err := small.Rows(make([]int, count)...)
		if count > 255 {
			refused(t, fmt.Sprintf("P1103: Rows of %d", count), got, err, api.ErrArg)
		} else if err != api.OK || len(got) != count || !bytes.Equal(slices.Concat(got...), bytes.Repeat([]byte{7}, count)) {
			t.Errorf("P1103: Rows of %d: %s, %v", count, show(got), err)
		}
	}
	got, err = m.Rows(255)
	refused(t, "P1103: Rows(255)", got, err, api.ErrArg)
}
