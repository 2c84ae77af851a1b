package rs_test

import (
	"bytes"
	"fmt"
	"math/rand"
	"slices"
	"testing"

	"glacier/api"
	"glacier/rs"
)

// code tells the code of k and m, which there must be.
func code(t *testing.T, k, m int) *rs.Code {
	t.Helper()
	c, err := rs.New(k, m)
	if err != api.OK || c == nil {
		t.Fatalf("P1201: New(%d, %d): %v", k, m, err)
	}
	return c
}

// drawn tells n bytes that look like any, but are the same ones each time.
func drawn(draw *rand.Rand, n int) []byte {
	b := make([]byte, n)
	draw.Read(b)
	return b
}

// drawnShards tells n lists of that length, which no code has made.
func drawnShards(draw *rand.Rand, n, length int) [][]byte {
	l := make([][]byte, n)
	for i := range l {
		l[i] = drawn(draw, length)
	}
	return l
}

// copied tells a copy of all lists.
func copied(l [][]byte) [][]byte {
	c := make([][]byte, len(l))
	for i := range l {
		c[i] = bytes.Clone(l[i])
	}
	return c
}

// without tells a copy of all lists but for those of some numbers: every second one of these has no memory
// either, the others some without bytes.
func without(l [][]byte, numbers ...int) [][]byte {
	c := copied(l)
	for i, n := range numbers {
		c[n] = [][]byte{nil, c[n][:0]}[i%2]
	}
	return c
}

// chosen tells the numbers of the bits of a mask.
func chosen(mask int) []int {
	var numbers []int
	for i := 0; mask>>i > 0; i++ {
		if mask>>i&1 == 1 {
			numbers = append(numbers, i)
		}
	}
	return numbers
}

// alike tells whether two lists of lists have the same bytes.
func alike(l, o [][]byte) bool { return slices.EqualFunc(l, o, bytes.Equal) }

// same asks for lists.
func same(t *testing.T, what string, got [][]byte, err api.Errno, want [][]byte) {
	t.Helper()
	if err != api.OK || !alike(got, want) {
		t.Errorf("%s: %s, %v; want %s", what, show(got), err, show(want))
	}
}

// sameBytes asks for bytes.
func sameBytes(t *testing.T, what string, got []byte, err api.Errno, want []byte) {
	t.Helper()
	if err != api.OK || !bytes.Equal(got, want) {
		t.Errorf("%s: %s, %v; want %s", what, show([][]byte{got}), err, show([][]byte{want}))
	}
}

// refused asks for an error, and nothing beside it (P4).
func refused(t *testing.T, what string, got [][]byte, err, want api.Errno) {
	t.Helper()
	if err != want || len(got) != 0 {
		t.Errorf("%s: %s, %v; want %v", what, show(got), err, want)
	}
}

// refusedBytes asks for an error, and no bytes beside it.
func refusedBytes(t *testing.T, what string, got []byte, err, want api.Errno) {
	t.Helper()
	if err != want || len(got) != 0 {
		t.Errorf("%s: %s, %v; want %v", what, show([][]byte{got}), err, want)
	}
}

// checked asks for what Check tells.
func checked(t *testing.T, what string, got bool, err api.Errno, want bool, wantErr api.Errno) {
	t.Helper()
	if got != want || err != wantErr {
		t.Errorf("%s: %v, %v; want %v, %v", what, got, err, want, wantErr)
	}
}

// show tells lists, or of great ones their number and their front.
func show(l [][]byte) string {
	s := fmt.Sprintf("% x", l)
	if len(s) > 200 {
		return fmt.Sprintf("%d lists %s ..", len(l), s[:200])
	}
	return s
}

// sizes are codes of all kinds: small ones, one part alone, and as great as may be.
func sizes() [][2]int {
	return [][2]int{{1, 0}, {1, 1}, {2, 1}, {1, 3}, {3, 0}, {3, 2}, {4, 3}, {5, 5}, {10, 4}, {1, 254}, {254, 1}, {255, 0}, {128, 127}, {200, 55}}
}
