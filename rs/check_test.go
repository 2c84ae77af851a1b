package rs_test

import (
	"fmt"
	"math/rand"
	"testing"

	"glacier/api"
)

func TestP1204CheckOfWhole(t *testing.T) {
	draw := rand.New(rand.NewSource(1212))
	for _, size := range sizes() {
		k, m := size[0], size[1]
		c := code(t, k, m)
		for _, n := range []int{0, 1, k, 2*k + 1, 256*k + 1} {
			is, err := c.Check(c.Encode(drawn(draw, n))...)
			checked(t, fmt.Sprintf("P1204: Check of %d bytes by %v", n, size), is, err, true, api.OK)
		}
	}
}

func TestP1204CheckOfMissing(t *testing.T) {
	draw := rand.New(rand.NewSource(1213))
	for _, size := range sizes() {
		k, m := size[0], size[1]
		c := code(t, k, m)
		all := c.Encode(drawn(draw, k))
		for at := range k + m {
			is, err := c.Check(without(all, at)...)
			checked(t, fmt.Sprintf("P1204: Check by %v without %d", size, at), is, err, false, api.ErrArg)
		}
	}
}

// TestP1206OneChanged changes each byte of each shard, by one bit and by all.
func TestP1206OneChanged(t *testing.T) {
	draw := rand.New(rand.NewSource(1214))
	for _, size := range [][2]int{{1, 1}, {2, 1}, {1, 3}, {3, 0}, {3, 2}, {4, 3}, {5, 5}, {30, 1}, {128, 127}} {
		k, m := size[0], size[1]
		c := code(t, k, m)
		all := c.Encode(drawn(draw, 3*k))
		for n, s := range all {
			for i := range s {
				for _, by := range []byte{1, 0x80, 0xFF} {
					s[i] ^= by
					is, err := c.Check(all...)
					checked(t, fmt.Sprintf("P1206: Check by %v, byte %d of shard %d changed by %#x", size, i, n, by), is, err, m == 0, api.OK)
					s[i] ^= by
				}
				if k+m > 100 {
					break
				}
			}
		}
		is, err := c.Check(all...)
		checked(t, fmt.Sprintf("P1206: Check by %v, as it was", size), is, err, true, api.OK)
	}
}

// TestP1206OneChangedInALongShard: Check goes over all pieces.
func TestP1206OneChangedInALongShard(t *testing.T) {
	draw := rand.New(rand.NewSource(1215))
	c := code(t, 3, 2)
	all := c.Encode(drawn(draw, 3*1000))
	for n, s := range all {
		for _, i := range []int{0, 1, 253, 254, 255, 256, 509, 510, 998, 999} {
			s[i] ^= 4
			is, err := c.Check(all...)
			checked(t, fmt.Sprintf("P1206: Check, byte %d of shard %d changed", i, n), is, err, false, api.OK)
			s[i] ^= 4
		}
	}
}

// TestP1206OneChangedInAllBytes: a whole shard is another one, or two shards have changed places.
func TestP1206OneChangedInAllBytes(t *testing.T) {
	draw := rand.New(rand.NewSource(1216))
	c := code(t, 3, 2)
	all := c.Encode(drawn(draw, 60))
	for n := range all {
		shards := copied(all)
		shards[n] = drawn(draw, 20)
		is, err := c.Check(shards...)
		checked(t, fmt.Sprintf("P1206: Check, shard %d another one", n), is, err, false, api.OK)
		other := (n + 1) % 5
		shards[n], shards[other] = all[other], all[n]
		is, err = c.Check(shards...)
		checked(t, fmt.Sprintf("P1204: Check, shards %d and %d in each other's places", n, other), is, err, false, api.OK)
	}
}

// added tells two rows of lists added byte by byte.
func added(l, o [][]byte) [][]byte {
	sum := copied(l)
	for i, s := range sum {
		for j := range s {
			s[j] ^= o[i][j]
		}
	}
	return sum
}

func TestP1206Linear(t *testing.T) {
	draw := rand.New(rand.NewSource(1217))
	for _, size := range sizes() {
		k, m := size[0], size[1]
		c := code(t, k, m)
		for _, n := range []int{1, k, 3*k - 1, 256*k + 1} {
			x, y := drawn(draw, n), drawn(draw, n)
			sum := added([][]byte{x}, [][]byte{y})[0]
			what := fmt.Sprintf("P1206: %d bytes by %v", n, size)
			same(t, what, c.Encode(sum), api.OK, added(c.Encode(x), c.Encode(y)))
			is, err := c.Check(added(c.Encode(x), c.Encode(y))...)
			checked(t, what+": Check of sums", is, err, true, api.OK)
		}
	}
}

// TestP1206LinearRepair: what is made of sums is the sum of what is made.
func TestP1206LinearRepair(t *testing.T) {
	draw := rand.New(rand.NewSource(1218))
	c := code(t, 4, 3)
	for mask := range 1 << 7 {
		lost := chosen(mask)
		if len(lost) > 3 {
			continue
		}
		x, y := drawnShards(draw, 7, 5), drawnShards(draw, 7, 5)
		one, err := c.Repair(without(x, lost...)...)
		if err != api.OK {
			t.Fatalf("P1204: Repair without %v: %v", lost, err)
		}
		other, _ := c.Repair(without(y, lost...)...)
		both, err := c.Repair(without(added(x, y), lost...)...)
		same(t, fmt.Sprintf("P1206: Repair without %v", lost), both, err, added(one, other))
	}
}
