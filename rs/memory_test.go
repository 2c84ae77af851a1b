package rs_test

import (
	"bytes"
	"fmt"
	"testing"

	"glacier/api"
	"glacier/rs"
)

// calls are those that tell bytes, of a code of 3 and 2; what is handed in is data, and shards of which some may
// be missing. Each begins with lists that it takes.
func calls() map[string]func(c *rs.Code, data []byte, shards [][]byte) ([][]byte, api.Errno) {
	return map[string]func(c *rs.Code, data []byte, shards [][]byte) ([][]byte, api.Errno){
		"Split": func(c *rs.Code, data []byte, shards [][]byte) ([][]byte, api.Errno) {
			return c.Split(data), api.OK
		},
		"Encode": func(c *rs.Code, data []byte, shards [][]byte) ([][]byte, api.Errno) {
			return c.Encode(data), api.OK
		},
		"Parity": func(c *rs.Code, data []byte, shards [][]byte) ([][]byte, api.Errno) {
			return c.Parity(shards[len(shards)-3:]...) // the last ones are there
		},
		"Decode": func(c *rs.Code, data []byte, shards [][]byte) ([][]byte, api.Errno) {
			b, err := c.Decode(len(data), shards...)
			return [][]byte{b}, err
		},
		"Repair": func(c *rs.Code, data []byte, shards [][]byte) ([][]byte, api.Errno) {
			return c.Repair(shards...)
		},
	}
}

// handed are what calls are made of: whole shards, some without bytes that have memory, some that have none.
func handed() [][][]byte {
	whole := [][]byte{[]byte("abcd"), []byte("efgh"), []byte("ijkl"), []byte("mnop"), []byte("qrst")}
	return [][][]byte{whole, without(whole, 0), without(whole, 0, 1), without(whole, 1, 0)}
}

func data() []byte { return []byte("0123456789a") }

// roomy tells a copy of lists, each with spare room, and a function that asks whether all of it, room too, is as
// it was (P2).
func roomy(t *testing.T, l [][]byte) ([][]byte, func(call string)) {
	t.Helper()
	all := make([][]byte, len(l)+2)
	for i := range all {
		all[i] = bytes.Repeat([]byte{0xEE}, 20)
		if i < len(l) {
			all[i] = append(bytes.Clone(l[i]), all[i]...)[:len(l[i])]
		}
	}
	was := fmt.Sprintf("%x", whole(all))
	return all[:len(l)], func(call string) {
		t.Helper()
		if is := fmt.Sprintf("%x", whole(all)); is != was {
			t.Errorf("P2: behind %s what was handed in is %s; it was %s", call, is, was)
		}
	}
}

// whole tells lists with all their spare room.
func whole(l [][]byte) [][]byte {
	var all [][]byte
	for _, b := range l[:cap(l)] {
		all = append(all, b[:cap(b)])
	}
	return all
}

// spoil writes over lists, spare room too.
func spoil(l [][]byte) {
	l = l[:cap(l)]
	for i, b := range l {
		spoilBytes(b)
		l[i] = nil
	}
}

func spoilBytes(b []byte) {
	b = b[:cap(b)]
	for i := range b {
		b[i] ^= 0x5A
	}
}

func TestP2WhatIsHandedInIsNotChanged(t *testing.T) {
	c := code(t, 3, 2)
	for name, call := range calls() {
		for _, l := range handed() {
			some, unchangedBytes := roomy(t, [][]byte{data()})
			shards, unchanged := roomy(t, l)
			got, err := call(c, some[0], shards)
			if err != api.OK {
				t.Errorf("P2: %s: %v", name, err)
			}
			spoil(got) // an answer that is written over, too
			unchanged(name)
			unchangedBytes(name)
			c.Check(shards...)
			unchanged("Check")
		}
	}
}

// TestP2WhatIsRefusedIsNotChanged goes over calls that answer errors.
func TestP2WhatIsRefusedIsNotChanged(t *testing.T) {
	c := code(t, 3, 2)
	base := handed()[0]
	other := copied(base)
	other[4] = []byte("uv")
	for _, l := range [][][]byte{nil, base[:2], other, without(base, 0, 1, 4), without(other, 2, 3), without(base, 0, 1, 2, 3, 4)} {
		shards, unchanged := roomy(t, l)
		for _, size := range []int{-1, 0, 1, 100} {
			c.Decode(size, shards...)
		}
		c.Repair(shards...)
		c.Parity(shards...)
		c.Check(shards...)
		unchanged("calls that are refused")
	}
}

func TestP2WhatIsHandedInIsNotKept(t *testing.T) {
	c := code(t, 3, 2)
	for name, call := range calls() {
		for i := range handed() {
			want, _ := call(c, data(), handed()[i])
			some, shards := data(), handed()[i]
			got, err := call(c, some, shards)
			spoilBytes(some)
			spoil(shards)
			same(t, "P2: "+name+" and what was handed in is written over", got, err, want)
		}
	}
}

// TestP2ListsOfAnswersShareNothing writes over each list that is told, spare room too, and asks for all others.
func TestP2ListsOfAnswersShareNothing(t *testing.T) {
	c := code(t, 3, 2)
	for name, call := range calls() {
		for _, l := range handed() {
			got, _ := call(c, data(), l)
			for i := range got {
				was := copied(got)
				spoilBytes(got[i])
				for n := range got {
					if n != i && !bytes.Equal(got[n], was[n]) {
						t.Errorf("P2: %s: list %d is written over, and list %d has changed", name, i, n)
					}
				}
			}
		}
	}
}

// TestP2SharedShards: shards that are handed in may be one and the same memory; what is told of them is not.
func TestP2SharedShards(t *testing.T) {
	c := code(t, 3, 2)
	b := []byte("abcdef")
	want, _ := c.Repair([]byte("abcd"), []byte("bcde"), nil, []byte("abcd"), nil)
	got, err := c.Repair(b[:4], b[1:5], b[:0], b[:4], b[6:])
	same(t, "P2: Repair of shared shards", got, err, want)
	for i := range got {
		was := copied(got)
		spoilBytes(got[i])
		for n := range got {
			if n != i && !bytes.Equal(got[n], was[n]) {
				t.Errorf("P2: Repair of shared shards: list %d is written over, and list %d has changed", i, n)
			}
		}
	}
	if string(b) != "abcdef" {
		t.Errorf("P2: the memory is %q", b)
	}
}

// TestP3TheSameAgain makes each call again, behind others and with the first answer written over, by the same
// code and by another one.
func TestP3TheSameAgain(t *testing.T) {
	first := map[string]string{}
	one := code(t, 3, 2)
	for range 3 {
		for name, call := range calls() {
			for i, l := range handed() {
				for _, c := range []*rs.Code{one, code(t, 3, 2)} {
					got, err := call(c, data(), l)
					is := fmt.Sprintf("%x %v", got, err)
					key := fmt.Sprintf("%s %d", name, i)
					if was, seen := first[key]; seen && is != was {
						t.Errorf("P3: %s: %s; it was %s", key, is, was)
					}
					first[key] = is
					spoil(got)
				}
				if k, m := one.Numbers(); k != 3 || m != 2 {
					t.Errorf("P1201: behind %s: %d, %d; want 3, 2", name, k, m)
				}
				one.Repair(nil, nil)           // an error, which changes nothing (P5)
				one.Decode(-1, handed()[0]...) // likewise
			}
		}
	}
}
