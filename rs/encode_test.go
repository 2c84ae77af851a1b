package rs_test

import (
	"bytes"
	"fmt"
	"math/rand"
	"testing"

	"glacier/api"
	"glacier/gf"
)

func TestP1202SplitOfKnown(t *testing.T) {
	for _, c := range []struct {
		k    int
		data string
		want []string
	}{
		{1, "", []string{"\x00"}},
		{1, "a", []string{"a"}},
		{1, "abc", []string{"abc"}},
		{2, "", []string{"\x00", "\x00"}},
		{2, "a", []string{"a", "\x00"}},
		{2, "ab", []string{"a", "b"}},
		{2, "abc", []string{"ab", "c\x00"}},
		{2, "abcd", []string{"ab", "cd"}},
		{3, "", []string{"\x00", "\x00", "\x00"}},
		{3, "abcd", []string{"ab", "cd", "\x00\x00"}},
		{4, "abcde", []string{"ab", "cd", "e\x00", "\x00\x00"}},
		{4, "abcdefgh", []string{"ab", "cd", "ef", "gh"}},
		{4, "abcdefghi", []string{"abc", "def", "ghi", "\x00\x00\x00"}},
		{5, "\x00\x00\x00\x00\x00\x01", []string{"\x00\x00", "\x00\x00", "\x00\x01", "\x00\x00", "\x00\x00"}},
	} {
		var want [][]byte
		for _, s := range c.want {
			want = append(want, []byte(s))
		}
		for _, m := range []int{0, 1, 7} { // Split does not hang on m
			got := code(t, c.k, m).Split([]byte(c.data))
			same(t, fmt.Sprintf("P1202: Split of %q, k %d, m %d", c.data, c.k, m), got, api.OK, want)
		}
	}
}

func TestP1202SplitByTheWords(t *testing.T) {
	draw := rand.New(rand.NewSource(1202))
	for _, k := range []int{1, 2, 3, 4, 5, 7, 16, 100, 254, 255} {
		c := code(t, k, 0)
		for _, n := range []int{0, 1, 2, 3, 4, 5, k - 1, k, k + 1, 2*k - 1, 2 * k, 2*k + 1, 3 * k, 255*k - 1, 255 * k, 255*k + 1} {
			data := drawn(draw, n)
			same(t, fmt.Sprintf("P1202: Split of %d bytes, k %d", n, k), c.Split(data), api.OK, modelSplit(k, data))
		}
	}
}

// TestP1202SplitOfAllSmall goes over each length, so that no rounding is left out.
func TestP1202SplitOfAllSmall(t *testing.T) {
	data := bytes.Repeat([]byte{0xFF}, 60)
	for k := 1; k <= 20; k++ {
		for n := range data {
			got := code(t, k, 2).Split(data[:n])
			same(t, fmt.Sprintf("P1202: Split of %d bytes, k %d", n, k), got, api.OK, modelSplit(k, data[:n]))
		}
	}
}

func TestP1202EncodeExample(t *testing.T) {
	got := code(t, 2, 1).Encode([]byte("ab"))
	want := [][]byte{{0x61}, {0x62}, {gf.Mul(0x8E, 0x61) ^ gf.Mul(0xF4, 0x62)}}
	same(t, "P1202: Encode(ab)", got, api.OK, want)
}

func TestP1202EncodeOfKnown(t *testing.T) {
	same(t, "P1202: of k 1", code(t, 1, 1).Encode([]byte("ab")), api.OK, [][]byte{[]byte("ab"), []byte("ab")})
	same(t, "P1202: of m 0", code(t, 3, 0).Encode([]byte("abc")), api.OK, [][]byte{{'a'}, {'b'}, {'c'}})
	same(t, "P1202: of nothing", code(t, 2, 2).Encode(nil), api.OK, [][]byte{{0}, {0}, {0}, {0}})
	same(t, "P1202: of 1", code(t, 2, 1).Encode([]byte{1}), api.OK, [][]byte{{1}, {0}, {0x8E}})
	same(t, "P1202: of 0, 1", code(t, 2, 1).Encode([]byte{0, 1}), api.OK, [][]byte{{0}, {1}, {0xF4}})
}

func TestP1202EncodeIsSplitAndParity(t *testing.T) {
	draw := rand.New(rand.NewSource(1203))
	for _, size := range sizes() {
		c := code(t, size[0], size[1])
		for _, n := range []int{0, 1, size[0], 3*size[0] + 1} {
			data := drawn(draw, n)
			got := c.Encode(data)
			what := fmt.Sprintf("P1202: Encode of %d bytes by %v", n, size)
			same(t, what, got, api.OK, modelEncode(size[0], size[1], data))
			shards := c.Split(data)
			parity, err := c.Parity(shards...)
			same(t, what, got, err, append(shards, parity...))
		}
	}
}

func TestP1203ParityByTheWords(t *testing.T) {
	draw := rand.New(rand.NewSource(1204))
	for _, size := range sizes() {
		k, m := size[0], size[1]
		for _, length := range []int{1, 2, 3, 17} {
			shards := drawnShards(draw, k, length)
			got, err := code(t, k, m).Parity(shards...)
			same(t, fmt.Sprintf("P1203: Parity of %d bytes each by %v", length, size), got, err, modelParity(k, m, shards))
		}
	}
}

// TestP1203ParityIsCauchyTimesBytes asks matrices, a column at a time.
func TestP1203ParityIsCauchyTimesBytes(t *testing.T) {
	draw := rand.New(rand.NewSource(1205))
	for _, size := range [][2]int{{1, 1}, {2, 1}, {3, 4}, {6, 3}, {128, 127}} {
		k, m := size[0], size[1]
		shards := drawnShards(draw, k, 5)
		got, err := code(t, k, m).Parity(shards...)
		if err != api.OK || len(got) != m {
			t.Fatalf("P1203: Parity by %v: %s, %v", size, show(got), err)
		}
		rows, err := gf.Cauchy(m, k)
		if err != api.OK {
			t.Fatalf("P1102: Cauchy(%d, %d): %v", m, k, err)
		}
		for i := range 5 {
			var column []byte
			for _, s := range shards {
				column = append(column, s[i])
			}
			want, _ := rows.Apply(column)
			for j, x := range want {
				if got[j][i] != x {
					t.Errorf("P1203: by %v: byte %d of list %d is %#x; want %#x", size, i, j, got[j][i], x)
				}
			}
		}
	}
}

// TestP1203ParityOfLengths: a matrix has no more than 255 columns; shards may be as long as they like.
func TestP1203ParityOfLengths(t *testing.T) {
	draw := rand.New(rand.NewSource(1206))
	c := code(t, 3, 2)
	for _, length := range []int{1, 253, 254, 255, 256, 257, 509, 510, 511, 512, 765, 766, 1000, 4096, 10001} {
		shards := drawnShards(draw, 3, length)
		got, err := c.Parity(shards...)
		same(t, fmt.Sprintf("P1203: Parity of %d bytes each", length), got, err, modelParity(3, 2, shards))
	}
}

func TestP1203ParityOfNoRows(t *testing.T) {
	for _, k := range []int{1, 3, 255} {
		c := code(t, k, 0)
		got, err := c.Parity(drawnShards(rand.New(rand.NewSource(1)), k, 4)...)
		if len(got) != 0 || err != api.OK {
			t.Errorf("P1203: Parity of k %d, m 0: %s, %v; want none", k, show(got), err)
		}
	}
}

func TestP1203ParityOfWrong(t *testing.T) {
	draw := rand.New(rand.NewSource(1207))
	for _, size := range sizes() {
		k, m := size[0], size[1]
		c := code(t, k, m)
		for _, n := range []int{0, 1, 2, k - 1, k + 1, k + m, k + m + 1, 256, 1000} {
			if n != k {
				got, err := c.Parity(drawnShards(draw, n, 2)...)
				refused(t, fmt.Sprintf("P1203: Parity of %d shards by %v", n, size), got, err, api.ErrArg)
			}
		}
		for at := range k {
			for _, length := range []int{0, 1, 3, 300} {
				shards := drawnShards(draw, k, 2)
				shards[at] = drawn(draw, length)
				got, err := c.Parity(shards...)
				if k > 1 || length == 0 { // one shard alone is as long as itself
					refused(t, fmt.Sprintf("P1203: Parity by %v, shard %d of %d bytes", size, at, length), got, err, api.ErrArg)
				}
			}
		}
		got, err := c.Parity(make([][]byte, k)...)
		refused(t, fmt.Sprintf("P1203: Parity by %v of shards without bytes", size), got, err, api.ErrArg)
		got, err = c.Parity(drawnShards(draw, k, 0)...)
		refused(t, fmt.Sprintf("P1203: Parity by %v of empty shards", size), got, err, api.ErrArg)
	}
}
