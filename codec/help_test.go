package codec_test

import (
	"bytes"
	"math/rand"
	"testing"
)

// noise tells bytes that look like any, the same ones each time.
func noise(seed int64, n int) []byte {
	b := make([]byte, n)
	rand.New(rand.NewSource(seed)).Read(b)
	return b
}

// guard hands out a slice of text with spare room; the function that it tells fails the test if text or room have changed (P2).
func guard(t *testing.T, text string) ([]byte, func()) {
	t.Helper()
	all := append([]byte(text), bytes.Repeat([]byte{0xEE}, 32)...)
	was := bytes.Clone(all)
	return all[:len(text):len(all)], func() {
		t.Helper()
		if !bytes.Equal(all, was) {
			t.Errorf("P2: what was handed in is now % x; was % x", all, was)
		}
	}
}

// scribble writes over a slice and its spare room.
func scribble(b []byte) {
	b = b[:cap(b)]
	for i := range b {
		b[i] ^= 0xFF
	}
}
