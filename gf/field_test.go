package gf_test

import (
	"math"
	"testing"

	"glacier/api"
	"glacier/gf"
)

func TestP1101Add(t *testing.T) {
	for a := range 256 {
		for b := range 256 {
			if got := gf.Add(byte(a), byte(b)); int(got) != a^b {
				t.Fatalf("P1101: Add(%d, %d) = %d; want %d", a, b, got, a^b)
			}
		}
	}
}

func TestP1101MulOfKnown(t *testing.T) {
	for _, c := range []struct{ a, b, want byte }{
		{0, 0, 0}, {0, 1, 0}, {1, 1, 1}, {2, 2, 4}, {0x80, 2, 0x1D}, {2, 0x80, 0x1D}, {0x80, 4, 0x3A}, {0x80, 0x80, 0x13}, {0x8E, 2, 1}, {0xF4, 3, 1}, {0xFF, 0xFF, 0xE2},
	} {
		if got := gf.Mul(c.a, c.b); got != c.want {
			t.Errorf("P1101: Mul(%#x, %#x) = %#x; want %#x", c.a, c.b, got, c.want)
		}
	}
}

func TestP1101MulOf0And1(t *testing.T) {
	for i := range 256 {
		a := byte(i)
		if gf.Mul(a, 0) != 0 || gf.Mul(0, a) != 0 || gf.Mul(a, 1) != a || gf.Mul(1, a) != a {
			t.Errorf("P1101: %#x by 0 and by 1: %#x, %#x, %#x, %#x", a, gf.Mul(a, 0), gf.Mul(0, a), gf.Mul(a, 1), gf.Mul(1, a))
		}
	}
}

func TestP1101MulByTheWords(t *testing.T) {
	for a := range 256 {
		for b := range 256 {
			if got, want := gf.Mul(byte(a), byte(b)), modelMul(byte(a), byte(b)); got != want {
				t.Fatalf("P1101: Mul(%#x, %#x) = %#x; want %#x", a, b, got, want)
			}
		}
	}
}

// TestP1101MulByAddingAndDoubling makes a times b of a times half of b.
func TestP1101MulByAddingAndDoubling(t *testing.T) {
	for a := range 256 {
		for b := 1; b < 256; b++ {
			want := int(gf.Mul(byte(a), byte(b/2))) * 2
			if want > 255 {
				want ^= 0x11D
			}
			if b%2 == 1 {
				want ^= a
			}
			if got := gf.Mul(byte(a), byte(b)); int(got) != want {
				t.Fatalf("P1101: Mul(%#x, %#x) = %#x; want %#x", a, b, got, want)
			}
		}
	}
}

func TestP1101Div(t *testing.T) {
	if got, err := gf.Div(1, 2); got != 0x8E || err != api.OK {
		t.Errorf("P1101: Div(1, 2) = %#x, %v; want 0x8e", got, err)
	}
	for i := range 256 {
		a := byte(i)
		if got, err := gf.Div(a, 0); got != 0 || err != api.ErrArg {
			t.Errorf("P1101: Div(%#x, 0) = %#x, %v; want 0, arg", a, got, err)
		}
		for b := 1; b < 256; b++ {
			got, err := gf.Div(a, byte(b))
			if err != api.OK || modelMul(got, byte(b)) != a {
				t.Fatalf("P1101: Div(%#x, %#x) = %#x, %v", a, b, got, err)
			}
			if a == 0 && got != 0 {
				t.Errorf("P1101: Div(0, %#x) = %#x; want 0", b, got)
			}
		}
	}
}

// power asks for what Pow tells.
func power(t *testing.T, a byte, n int, want byte, wantErr api.Errno) {
	t.Helper()
	if got, err := gf.Pow(a, n); got != want || err != wantErr {
		t.Errorf("P1101: Pow(%#x, %d) = %#x, %v; want %#x, %v", a, n, got, err, want, wantErr)
	}
}

func TestP1101PowOf0(t *testing.T) {
	for _, n := range []int{-1, -2, -254, -255, -256, -510, math.MinInt, math.MinInt + 1} {
		power(t, 0, n, 0, api.ErrArg)
	}
	power(t, 0, 0, 1, api.OK)
	for _, n := range []int{1, 2, 8, 254, 255, 256, 510, math.MaxInt, math.MaxInt - 1} {
		power(t, 0, n, 0, api.OK)
	}
}

// TestP1101PowByMultiplying goes some way up and down from n 0, for each element.
func TestP1101PowByMultiplying(t *testing.T) {
	power(t, 2, 8, 0x1D, api.OK)
	for i := 1; i < 256; i++ {
		a, over := byte(i), modelInverse(byte(i))
		up, down := byte(1), byte(1)
		for n := range 600 {
			power(t, a, n, up, api.OK)
			power(t, a, -n, down, api.OK)
			up, down = gf.Mul(up, a), gf.Mul(down, over)
		}
		if t.Failed() {
			return
		}
	}
}

// TestP1101PowOfGreatN: the greatest int is 2 to the 63 less 1, so a is squared 63 times and divided by once.
func TestP1101PowOfGreatN(t *testing.T) {
	for i := 1; i < 256; i++ {
		a := byte(i)
		square := a
		for range 63 {
			square = gf.Mul(square, square)
		}
		greatest := modelMul(square, modelInverse(a))
		power(t, a, math.MaxInt, greatest, api.OK)
		power(t, a, math.MaxInt-1, modelMul(greatest, modelInverse(a)), api.OK)
		power(t, a, math.MinInt+1, modelInverse(greatest), api.OK)
		power(t, a, math.MinInt, modelMul(modelInverse(greatest), modelInverse(a)), api.OK)
		power(t, a, 254, modelInverse(a), api.OK)
		power(t, a, 255, 1, api.OK)
		power(t, a, 256, a, api.OK)
		power(t, a, -254, a, api.OK)
		power(t, a, -255, 1, api.OK)
		power(t, a, -256, modelInverse(a), api.OK)
		power(t, a, -1, modelInverse(a), api.OK)
	}
}

func TestP1101Log(t *testing.T) {
	if n, err := gf.Log(0); n != 0 || err != api.ErrArg {
		t.Errorf("P1101: Log(0) = %d, %v; want 0, arg", n, err)
	}
	least := map[byte]int{}
	for n, a := 0, byte(1); n < 255; n, a = n+1, modelMul(a, 2) {
		if _, is := least[a]; !is {
			least[a] = n
		}
	}
	for i := 1; i < 256; i++ {
		want, is := least[byte(i)]
		if n, err := gf.Log(byte(i)); n != want || err != api.OK || !is {
			t.Errorf("P1101: Log(%#x) = %d, %v; want %d", i, n, err, want)
		}
	}
	for a, want := range map[byte]int{1: 0, 2: 1, 4: 2, 0x80: 7, 0x1D: 8, 0x8E: 254, 3: 25} {
		if n, err := gf.Log(a); n != want || err != api.OK {
			t.Errorf("P1101: Log(%#x) = %d, %v; want %d", a, n, err, want)
		}
	}
}

// table tells all products.
func table() *[256][256]byte {
	var of [256][256]byte
	for a := range of {
		for b := range of[a] {
			of[a][b] = gf.Mul(byte(a), byte(b))
		}
	}
	return &of
}

func TestP1104SumsAndProductsInAnyOrder(t *testing.T) {
	of := table()
	for a := range 256 {
		for b := range 256 {
			if of[a][b] != of[b][a] || gf.Add(byte(a), byte(b)) != gf.Add(byte(b), byte(a)) {
				t.Fatalf("P1104: %#x and %#x, turned round", a, b)
			}
			for c := range 256 {
				if of[of[a][b]][c] != of[a][of[b][c]] {
					t.Fatalf("P1104: the product of %#x, %#x, %#x", a, b, c)
				}
				if gf.Add(gf.Add(byte(a), byte(b)), byte(c)) != gf.Add(byte(a), gf.Add(byte(b), byte(c))) {
					t.Fatalf("P1104: the sum of %#x, %#x, %#x", a, b, c)
				}
			}
		}
	}
}

func TestP1104ProductsOverSums(t *testing.T) {
	of := table()
	for a := range 256 {
		for b := range 256 {
			for c := range 256 {
				if of[a][gf.Add(byte(b), byte(c))] != gf.Add(of[a][b], of[a][c]) {
					t.Fatalf("P1104: %#x times the sum of %#x and %#x", a, b, c)
				}
			}
		}
	}
}

func TestP1104Neutral(t *testing.T) {
	for i := range 256 {
		a := byte(i)
		if gf.Add(a, 0) != a || gf.Mul(a, 1) != a || gf.Add(a, a) != 0 {
			t.Errorf("P1104: %#x: %#x, %#x, %#x", a, gf.Add(a, 0), gf.Mul(a, 1), gf.Add(a, a))
		}
	}
}

func TestP1104QuotientsUndoProducts(t *testing.T) {
	for a := range 256 {
		for b := 1; b < 256; b++ {
			got, err := gf.Div(gf.Mul(byte(a), byte(b)), byte(b))
			if int(got) != a || err != api.OK {
				t.Fatalf("P1104: %#x times %#x, divided by it: %#x, %v", a, b, got, err)
			}
			quotient, _ := gf.Div(byte(a), byte(b))
			if back := gf.Mul(quotient, byte(b)); int(back) != a {
				t.Fatalf("P1104: %#x divided by %#x, times it: %#x", a, b, back)
			}
		}
	}
}

func TestP1104PowersOf2AreAllBut0(t *testing.T) {
	seen := map[byte]bool{}
	for n := range 255 {
		a, err := gf.Pow(2, n)
		if err != api.OK || a == 0 || seen[a] {
			t.Errorf("P1104: 2 to the %d: %#x, %v", n, a, err)
		}
		seen[a] = true
		if back, err := gf.Log(a); back != n || err != api.OK {
			t.Errorf("P1104: Log(%#x) = %d, %v; want %d", a, back, err, n)
		}
	}
	if len(seen) != 255 {
		t.Errorf("P1104: 2 makes %d elements; want 255", len(seen))
	}
}

// TestP1104PowersAdd: the powers of an element are multiplied by adding their numbers.
func TestP1104PowersAdd(t *testing.T) {
	for i := 1; i < 256; i++ {
		for n := -300; n <= 300; n += 37 {
			for m := -300; m <= 300; m += 41 {
				x, _ := gf.Pow(byte(i), n)
				y, _ := gf.Pow(byte(i), m)
				power(t, byte(i), n+m, gf.Mul(x, y), api.OK)
			}
		}
		if t.Failed() {
			return
		}
	}
}
