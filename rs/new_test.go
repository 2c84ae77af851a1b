package rs_test

import (
	"math"
	"testing"

	"glacier/api"
	"glacier/rs"
)

// asNew asks for what New and Numbers tell, by the chapter's words.
func asNew(t *testing.T, k, m int, right bool) {
	t.Helper()
	c, err := rs.New(k, m)
	if !right {
		if c != nil || err != api.ErrArg {
			t.Errorf("P1201: New(%d, %d): %v, %v; want nil, arg", k, m, c, err)
		}
		return
	}
	if c == nil || err != api.OK {
		t.Errorf("P1201: New(%d, %d): %v, %v", k, m, c, err)
		return
	}
	if gotK, gotM := c.Numbers(); gotK != k || gotM != m {
		t.Errorf("P1201: Numbers of New(%d, %d): %d, %d", k, m, gotK, gotM)
	}
}

func TestP1201NewOfAllNumbers(t *testing.T) {
	for k := -2; k <= 258; k++ {
		for m := -2; m <= 258; m++ {
			asNew(t, k, m, k >= 1 && m >= 0 && k+m <= 255)
		}
	}
}

func TestP1201NewAtTheBounds(t *testing.T) {
	for _, c := range [][2]int{{1, 0}, {255, 0}, {254, 1}, {1, 254}, {128, 127}, {200, 55}} {
		asNew(t, c[0], c[1], true)
	}
	for _, c := range [][2]int{{0, 0}, {0, 1}, {0, 255}, {-1, 2}, {1, -1}, {255, -1}, {256, -1}, {256, 0}, {255, 1}, {1, 255}, {200, 56}, {128, 128}} {
		asNew(t, c[0], c[1], false)
	}
}

// TestP1201NewOfGreatInts: the sum of two of them may be too great for one, and look small.
func TestP1201NewOfGreatInts(t *testing.T) {
	great := []int{math.MaxInt, math.MaxInt - 1, math.MaxInt - 254, math.MaxInt/2 + 1, math.MaxInt/2 + 2, 1 << 32, 1<<32 + 1, 1 << 31, 1<<8 + 1, math.MinInt, math.MinInt + 1, math.MinInt + 256}
	for _, a := range great {
		for _, b := range append(great, -1, 0, 1, 2, 100, 255) {
			asNew(t, a, b, false)
			asNew(t, b, a, false)
		}
	}
}

func TestP7NewTellsACodeOfItsOwn(t *testing.T) {
	one, other := code(t, 2, 1), code(t, 2, 1)
	if one == other {
		t.Errorf("P7: New has told the same code twice")
	}
	code(t, 3, 4)
	if k, m := one.Numbers(); k != 2 || m != 1 {
		t.Errorf("P1201: behind another New: %d, %d; want 2, 1", k, m)
	}
}

// TestP1OfACodeThatNewHasNotMade: nothing is promised of it, but that the calls end.
func TestP1OfACodeThatNewHasNotMade(t *testing.T) {
	c := new(rs.Code)
	c.Numbers()
	for _, l := range [][][]byte{nil, {nil}, {{1}}, {{1}, {2}}, {{1}, {2, 3}}, {nil, {1}}} {
		c.Split([]byte("abc"))
		c.Encode([]byte("abc"))
		c.Encode(nil)
		c.Parity(l...)
		for _, size := range []int{-1, 0, 1} {
			c.Decode(size, l...)
		}
		c.Repair(l...)
		c.Check(l...)
	}
}
