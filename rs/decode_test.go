package rs_test

import (
	"bytes"
	"fmt"
	"math"
	"math/rand"
	"slices"
	"testing"

	"glacier/api"
)

func TestP1204DecodeOfSizes(t *testing.T) {
	c := code(t, 3, 2)
	all := c.Encode([]byte("abcdefg")) // abc, def, g00
	whole := []byte("abcdefg\x00\x00")
	for _, lost := range [][]int{nil, {0}, {2}, {4}, {0, 1}, {1, 2}, {0, 3}, {3, 4}} {
		shards := without(all, lost...)
		for size := range 10 {
			got, err := c.Decode(size, shards...)
			sameBytes(t, fmt.Sprintf("P1204: Decode of %d without %v", size, lost), got, err, whole[:size])
		}
		for _, size := range []int{-1, -3, -9, math.MinInt, 10, 11, 15, 1000, 1 << 32, math.MaxInt} {
			got, err := c.Decode(size, shards...)
			refusedBytes(t, fmt.Sprintf("P1204: Decode of %d without %v", size, lost), got, err, api.ErrArg)
		}
	}
}

func TestP1204DecodeOfNone(t *testing.T) {
	for _, size := range sizes() {
		c := code(t, size[0], size[1])
		none := make([][]byte, size[0]+size[1])
		got, err := c.Decode(0, none...)
		refusedBytes(t, fmt.Sprintf("P1204: Decode of 0 of none by %v", size), got, err, api.ErrLost)
		for _, n := range []int{-1, 1, 2, size[0], math.MaxInt, math.MinInt} {
			got, err = c.Decode(n, none...)
			refusedBytes(t, fmt.Sprintf("P1204: Decode of %d of none by %v", n, size), got, err, api.ErrArg)
		}
		l, err := c.Repair(none...)
		refused(t, fmt.Sprintf("P1204: Repair of none by %v", size), l, err, api.ErrLost)
		is, err := c.Check(none...)
		checked(t, fmt.Sprintf("P1204: Check of none by %v", size), is, err, false, api.ErrArg)
	}
}

// allRefuse asks all three calls for an error; Decode of a size that may be.
func allRefuse(t *testing.T, what string, k, m int, shards [][]byte, want api.Errno) {
	t.Helper()
	c := code(t, k, m)
	for _, size := range []int{0, 1} {
		got, err := c.Decode(size, shards...)
		refusedBytes(t, fmt.Sprintf("P1204: Decode of %d: %s", size, what), got, err, want)
	}
	l, err := c.Repair(shards...)
	refused(t, "P1204: Repair: "+what, l, err, want)
	is, err := c.Check(shards...)
	checked(t, "P1204: Check: "+what, is, err, false, api.ErrArg)
}

func TestP1204OfOtherNumbersOfShards(t *testing.T) {
	draw := rand.New(rand.NewSource(1204))
	for _, size := range sizes() {
		k, m := size[0], size[1]
		for _, n := range []int{0, 1, k - 1, k, k + 1, k + m - 1, k + m + 1, 256, 600} {
			if n == k+m {
				continue
			}
			what := fmt.Sprintf("%d shards by %v", n, size)
			allRefuse(t, what, k, m, drawnShards(draw, n, 2), api.ErrArg)
			allRefuse(t, what+", none there", k, m, make([][]byte, n), api.ErrArg)
		}
	}
}

func TestP1204OfOtherLengths(t *testing.T) {
	draw := rand.New(rand.NewSource(1205))
	for _, size := range [][2]int{{1, 1}, {2, 1}, {3, 0}, {3, 2}, {4, 3}, {128, 127}} {
		k, m := size[0], size[1]
		for at := range k + m {
			for _, length := range []int{1, 3, 300} {
				shards := drawnShards(draw, k+m, 2)
				shards[at] = drawn(draw, length)
				what := fmt.Sprintf("by %v, shard %d of %d bytes", size, at, length)
				allRefuse(t, what, k, m, shards, api.ErrArg)
				other := (at + 1) % (k + m) // with all others missing, too (P6)
				lone := make([][]byte, k+m)
				lone[at], lone[other] = shards[at], shards[other]
				allRefuse(t, what+", and one more", k, m, lone, api.ErrArg)
			}
		}
	}
}

// TestP6ArgAheadOfLost: where too few are there, a size that may not be is told ahead of it.
func TestP6ArgAheadOfLost(t *testing.T) {
	c := code(t, 3, 2)
	few := without(c.Encode([]byte("abcdefg")), 0, 1, 4)
	for _, size := range []int{-1, 10, math.MaxInt, math.MinInt} {
		got, err := c.Decode(size, few...)
		refusedBytes(t, fmt.Sprintf("P6: Decode of %d", size), got, err, api.ErrArg)
	}
	for _, size := range []int{0, 1, 7, 9} {
		got, err := c.Decode(size, few...)
		refusedBytes(t, fmt.Sprintf("P6: Decode of %d", size), got, err, api.ErrLost)
	}
}

// TestP1204MadeOfTheFirst: what is missing is made of the first k that are there; what stands behind them is
// not asked, and told as it is.
func TestP1204MadeOfTheFirst(t *testing.T) {
	c := code(t, 3, 3)
	data := []byte("abcdefghi")
	all := c.Encode(data)
	shards := without(all, 1)
	shards[4] = []byte("xyz")
	shards[5] = []byte("uvw")
	got, err := c.Decode(9, shards...)
	sameBytes(t, "P1204: Decode", got, err, data)
	l, err := c.Repair(shards...)
	same(t, "P1204: Repair", l, err, [][]byte{all[0], all[1], all[2], all[3], shards[4], shards[5]})
	shards = without(all, 0, 4)
	shards[5][2]++
	got, err = c.Decode(9, shards...)
	sameBytes(t, "P1204: Decode", got, err, data)
	l, err = c.Repair(shards...)
	same(t, "P1204: Repair", l, err, [][]byte{all[0], all[1], all[2], all[3], all[4], shards[5]})
	shards = without(all, 3) // all bytes are there: the missing one is made of them alone
	shards[4][0]++
	l, err = c.Repair(shards...)
	same(t, "P1204: Repair", l, err, [][]byte{all[0], all[1], all[2], all[3], shards[4], all[5]})
}

// TestP1204MadeOfAnyBytes goes over shards that no code has made: there is one answer only.
func TestP1204MadeOfAnyBytes(t *testing.T) {
	draw := rand.New(rand.NewSource(1206))
	for _, size := range [][2]int{{1, 1}, {1, 3}, {2, 2}, {3, 2}, {4, 3}, {2, 5}} {
		k, m := size[0], size[1]
		c := code(t, k, m)
		for mask := range 1 << (k + m) {
			lost := chosen(mask)
			if len(lost) > m {
				continue
			}
			shards := without(drawnShards(draw, k+m, 3), lost...)
			all, err := c.Repair(shards...)
			if err != api.OK || !modelMended(c, shards, all) {
				t.Errorf("P1204: Repair by %v of %s: %s, %v", size, show(shards), show(all), err)
				continue
			}
			got, err := c.Decode(3*k, shards...)
			sameBytes(t, fmt.Sprintf("P1204: Decode by %v of %s", size, show(shards)), got, err, slices.Concat(all[:k]...))
		}
	}
}

func TestP1204MadeOfAnyBytesByGreatCodes(t *testing.T) {
	draw := rand.New(rand.NewSource(1207))
	for _, size := range [][2]int{{128, 127}, {254, 1}, {1, 254}, {200, 55}, {55, 200}, {20, 10}} {
		k, m := size[0], size[1]
		c := code(t, k, m)
		for range 4 {
			shards := without(drawnShards(draw, k+m, 3), draw.Perm(k + m)[:draw.Intn(m+1)]...)
			all, err := c.Repair(shards...)
			if err != api.OK || !modelMended(c, shards, all) {
				t.Errorf("P1204: Repair by %v: %s, %v", size, show(all), err)
			}
			got, err := c.Decode(3*k, shards...)
			sameBytes(t, fmt.Sprintf("P1204: Decode by %v", size), got, err, slices.Concat(all[:k]...))
		}
	}
}

// TestP1204OfK1: each shard alone tells all others.
func TestP1204OfK1(t *testing.T) {
	c := code(t, 1, 3)
	all := c.Encode([]byte("abc"))
	for n := range all {
		lone := make([][]byte, 4)
		lone[n] = all[n]
		got, err := c.Decode(3, lone...)
		sameBytes(t, fmt.Sprintf("P1204: Decode of %d alone", n), got, err, []byte("abc"))
		l, err := c.Repair(lone...)
		same(t, fmt.Sprintf("P1204: Repair of %d alone", n), l, err, all)
	}
	l, err := c.Repair(nil, nil, []byte{0x8E}, nil) // 1 divided by the sum of 2 and 0
	same(t, "P1204: Repair of 8E alone", l, err, [][]byte{{1}, {1}, {0x8E}, {0xF4}})
}

// TestP1204OfM0: nothing may be missing, and nothing is asked of what is there.
func TestP1204OfM0(t *testing.T) {
	c := code(t, 2, 0)
	shards := [][]byte{[]byte("ab"), []byte("cd")}
	got, err := c.Decode(3, shards...)
	sameBytes(t, "P1204: Decode", got, err, []byte("abc"))
	l, err := c.Repair(shards...)
	same(t, "P1204: Repair", l, err, shards)
	is, err := c.Check(shards...)
	checked(t, "P1204: Check", is, err, true, api.OK)
	allRefuse(t, "one is missing", 2, 0, [][]byte{nil, []byte("cd")}, api.ErrLost)
	allRefuse(t, "one is missing", 2, 0, [][]byte{[]byte("ab"), nil}, api.ErrLost)
}

// tells asks Decode and Repair for what was encoded, without some shards.
func tells(t *testing.T, what string, k, m int, data []byte, all [][]byte, lost []int) {
	t.Helper()
	c := code(t, k, m)
	shards := without(all, lost...)
	got, err := c.Decode(len(data), shards...)
	l, errRepair := c.Repair(shards...)
	if len(lost) > m {
		refusedBytes(t, "P1205: Decode "+what, got, err, api.ErrLost)
		refused(t, "P1205: Repair "+what, l, errRepair, api.ErrLost)
		return
	}
	sameBytes(t, "P1205: Decode "+what, got, err, data)
	same(t, "P1205: Repair "+what, l, errRepair, all)
}

// TestP1205AllLosses goes over each way to lose shards of small codes, more than may be, too.
func TestP1205AllLosses(t *testing.T) {
	draw := rand.New(rand.NewSource(1208))
	for _, size := range [][2]int{{1, 0}, {2, 0}, {1, 1}, {1, 4}, {2, 1}, {2, 2}, {3, 3}, {4, 1}, {4, 3}, {6, 3}, {3, 6}, {5, 5}} {
		k, m := size[0], size[1]
		for _, n := range []int{1, k, 2*k + 1} {
			data := drawn(draw, n)
			all := code(t, k, m).Encode(data)
			for mask := range 1<<(k+m) - 1 { // of none that are there, Decode of n is refused as no size
				lost := chosen(mask)
				tells(t, fmt.Sprintf("of %d bytes by %v without %v", n, size, lost), k, m, data, all, lost)
			}
		}
	}
}

func TestP1205LossesOfGreatCodes(t *testing.T) {
	draw := rand.New(rand.NewSource(1209))
	for _, size := range [][2]int{{128, 127}, {254, 1}, {1, 254}, {200, 55}, {55, 200}, {10, 4}, {20, 20}} {
		k, m := size[0], size[1]
		data := drawn(draw, 2*k+1)
		all := code(t, k, m).Encode(data)
		order := draw.Perm(k + m)
		first := make([]int, m+1) // the front's loss makes most of the matrix be Cauchy's
		for i := range first {
			first[i] = i
		}
		last := make([]int, m)
		for i := range last {
			last[i] = k + i
		}
		for _, lost := range [][]int{nil, order[:1], order[:m/2], order[:m], order[:m+1], first[:m], first, last, append(last, 0)} {
			if len(lost) == k+m {
				continue
			}
			tells(t, fmt.Sprintf("by %v without %d", size, len(lost)), k, m, data, all, lost)
		}
	}
}

// TestP1205LongShards: these are made in more than one piece.
func TestP1205LongShards(t *testing.T) {
	draw := rand.New(rand.NewSource(1210))
	for _, length := range []int{254, 255, 256, 510, 511, 3000} {
		for _, short := range []int{0, 1, 2} {
			data := drawn(draw, 3*length-short)
			all := code(t, 3, 2).Encode(data)
			if len(all[0]) != length {
				t.Fatalf("P1202: the shards have %d bytes; want %d", len(all[0]), length)
			}
			for mask := range 1<<5 - 1 {
				lost := chosen(mask)
				tells(t, fmt.Sprintf("of %d bytes each without %v", length, lost), 3, 2, data, all, lost)
			}
		}
	}
}

func TestP1205LossesOfNothing(t *testing.T) {
	c := code(t, 3, 2)
	all := c.Encode(nil)
	for mask := range 1 << 5 {
		lost := chosen(mask)
		tells(t, fmt.Sprintf("of nothing without %v", lost), 3, 2, nil, all, lost)
	}
}

func TestP1205LossesOfMuch(t *testing.T) {
	draw := rand.New(rand.NewSource(1211))
	data := drawn(draw, 1<<22+3)
	all := code(t, 4, 3).Encode(data)
	tells(t, "of 4 MiB", 4, 3, data, all, []int{0, 2, 5})
	tells(t, "of 4 MiB", 4, 3, data, all, []int{0, 2, 3, 4})
	if got := bytes.Join(all[:4], nil); !bytes.Equal(got[:len(data)], data) {
		t.Errorf("P1202: the first shards do not hold the bytes")
	}
}
