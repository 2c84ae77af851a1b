package gf_test

import (
	"bytes"
	"fmt"
	"math/rand"
	"slices"
	"testing"

	"glacier/api"
	"glacier/gf"
)

// sized tells a matrix of that size, whose elements look like any, but are the same ones each time.
func sized(draw *rand.Rand, rows, columns int) gf.Matrix {
	m := make(gf.Matrix, rows)
	for i := range m {
		m[i] = make([]byte, columns)
		draw.Read(m[i])
	}
	return m
}

// few tells a matrix of elements below most, so that many have no inverse.
func few(draw *rand.Rand, rows, columns, most int) gf.Matrix {
	m := sized(draw, rows, columns)
	for _, row := range m {
		for j := range row {
			row[j] %= byte(most)
		}
	}
	return m
}

// wrong are matrices that are not right.
func wrong() map[string]gf.Matrix {
	draw := rand.New(rand.NewSource(1))
	return map[string]gf.Matrix{
		"nil":                            nil,
		"no rows":                        {},
		"a row that is nil":              {nil},
		"a row without elements":         {{}},
		"two rows without elements":      {{}, {}},
		"256 rows":                       sized(draw, 256, 1),
		"256 rows of 256":                sized(draw, 256, 256),
		"256 rows without elements":      make(gf.Matrix, 256),
		"a row of 256":                   sized(draw, 1, 256),
		"255 rows of 256":                sized(draw, 255, 256),
		"300 rows of 2":                  sized(draw, 300, 2),
		"a first row that is longer":     {{1, 2}, {1}},
		"a first row that is shorter":    {{1}, {1, 2}},
		"a last row that is longer":      {{1, 2}, {3, 4}, {5, 6, 7}},
		"a last row that is shorter":     {{1, 2}, {3, 4}, {5}},
		"a row between that is longer":   {{1, 2}, {3, 4, 5}, {5, 6}},
		"a first row without elements":   {{}, {1}},
		"a last row without elements":    {{1}, nil},
		"a row of 256 behind one of 1":   {{1}, make([]byte, 256)},
		"a row of 255 behind one of 1":   {{1}, make([]byte, 255)},
		"a row of 255 ahead of one of 1": {make([]byte, 255), {1}},
	}
}

// same asks for a matrix.
func same(t *testing.T, what string, got gf.Matrix, err api.Errno, want gf.Matrix) {
	t.Helper()
	if err != api.OK || !slices.EqualFunc(got, want, bytes.Equal) {
		t.Errorf("%s: %s, %v; want %s", what, show(got), err, show(want))
	}
}

// refused asks for an error, and nothing beside it (P4).
func refused(t *testing.T, what string, got gf.Matrix, err, want api.Errno) {
	t.Helper()
	if err != want || len(got) != 0 {
		t.Errorf("%s: %s, %v; want %v", what, show(got), err, want)
	}
}

// show tells a matrix, or of a great one its size and its front.
func show(m gf.Matrix) string {
	s := fmt.Sprintf("% x", [][]byte(m))
	if len(s) > 200 {
		return fmt.Sprintf("%d rows %s ..", len(m), s[:200])
	}
	return s
}

// roomy tells a copy of m, each list of which has spare room, and a function that asks whether all of it,
// room too, is as it was (P2).
func roomy(t *testing.T, m gf.Matrix) (gf.Matrix, func(call string)) {
	t.Helper()
	all := make(gf.Matrix, len(m)+2)
	for i := range all {
		all[i] = bytes.Repeat([]byte{0xEE}, 20)
		if i < len(m) {
			all[i] = append(bytes.Clone(m[i]), all[i]...)[:len(m[i])]
		}
	}
	was := fmt.Sprintf("%x", whole(all))
	return all[:len(m)], func(call string) {
		t.Helper()
		if is := fmt.Sprintf("%x", whole(all)); is != was {
			t.Errorf("P2: behind %s what was handed in is %s; it was %s", call, is, was)
		}
	}
}

// whole tells a matrix with all its spare room.
func whole(m gf.Matrix) [][]byte {
	var rows [][]byte
	for _, row := range m[:cap(m)] {
		rows = append(rows, row[:cap(row)])
	}
	return rows
}

// spoil writes over a list of elements, spare room too.
func spoil(b []byte) {
	b = b[:cap(b)]
	for i := range b {
		b[i] ^= 0x5A
	}
}

// spoilAll writes over a matrix, spare room too.
func spoilAll(m gf.Matrix) {
	m = m[:cap(m)]
	for i, row := range m {
		spoil(row)
		m[i] = nil
	}
}
