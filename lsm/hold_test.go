package lsm_test

import (
	"fmt"
	"math"
	"strings"
	"testing"

	"glacier/api"
	"glacier/lsm"
)

// hold holds the present number, which must be that one.
func hold(t *testing.T, x *lsm.DB, want uint64) {
	t.Helper()
	if n := x.Hold(); n != want {
		t.Errorf("P1004: Hold: %d; want %d", n, want)
	}
}

// release releases a number, with what is told of it.
func release(t *testing.T, x *lsm.DB, n uint64, want api.Errno) {
	t.Helper()
	if err := x.Release(n); err != want {
		t.Errorf("P1004: Release(%d): %v; want %v", n, err, want)
	}
}

func TestP1004HoldAndRelease(t *testing.T) {
	x := fresh(t)
	release(t, x, 0, api.ErrNone)
	hold(t, x, 0)
	hold(t, x, 0)
	release(t, x, 0, api.OK)
	release(t, x, 0, api.OK)
	release(t, x, 0, api.ErrNone)
	apply(t, x, "a=1", "a=2")
	for _, n := range []uint64{0, 1, 2, 3, math.MaxUint64} {
		release(t, x, n, api.ErrNone)
	}
	for range 5 {
		hold(t, x, 2)
	}
	apply(t, x, "a=3")
	hold(t, x, 3)
	release(t, x, 1, api.ErrNone)
	for range 5 {
		release(t, x, 2, api.OK)
	}
	release(t, x, 2, api.ErrNone)
	release(t, x, 3, api.OK)
	release(t, x, 3, api.ErrNone)
	hold(t, x, 3)
	release(t, x, 3, api.OK)
}

// TestP1004WhatIsHeld stays, and goes when it is let go.
func TestP1004WhatIsHeld(t *testing.T) {
	x := fresh(t)
	hold(t, x, 0)
	for n := 1; n <= 9; n++ {
		apply(t, x, fmt.Sprintf("a=%d b%d=%d", n, n, n), "c a")
		if n%3 == 0 {
			flush(t, x)
			compacted(t, x)
		}
		if n%2 == 1 {
			hold(t, x, uint64(2*n))
			hold(t, x, uint64(2*n))
		}
	}
	held := []uint64{0, 2, 6, 10, 14, 18}
	for len(held) > 0 {
		for _, n := range held {
			at(t, "P1004", x, "a", n, "")
			for i := 1; i <= 9; i++ {
				want := ""
				if uint64(2*i-1) <= n {
					want = fmt.Sprint(i)
				}
				at(t, "P1004", x, fmt.Sprint("b", i), n, want)
			}
		}
		release(t, x, held[0], api.OK)
		if held[0] > 0 {
			release(t, x, held[0], api.OK)
		}
		release(t, x, held[0], api.ErrNone)
		held = held[1:]
		flushed(t, x, "z=1")
		compacted(t, x)
	}
}

// versions tells how many versions of a key a tree's tables have.
func versions(t *testing.T, x *lsm.DB, key string) string {
	t.Helper()
	var l []string
	for _, p := range x.Version().Tables {
		for _, e := range inside(t, x.Disk, p) {
			if e.Key == key {
				l = append(l, entries([]api.Entry{e})[len(key)+1:])
			}
		}
	}
	return strings.Join(l, ", ")
}

// TestP1004WhatIsKept: compactions keep what the least number that is held sees, and all behind it, and no more.
func TestP1004WhatIsKept(t *testing.T) {
	x := fresh(t)
	apply(t, x, "a=1", "a=2", "a=3")
	hold(t, x, 3)
	hold(t, x, 3)
	apply(t, x, "a=4", "a")
	hold(t, x, 5)
	apply(t, x, "a=6", "a=7", "b=8")
	flush(t, x)
	check := func(want string) {
		t.Helper()
		compacted(t, x)
		if got := versions(t, x, "a"); got != want {
			t.Errorf("P1004: of a there are %q; want %q", got, want)
		}
		flushed(t, x, "A=9 z=9") // so that the next compaction takes all between them
	}
	check("7 7, 6 6, 5 gone, 4 4, 3 3")
	release(t, x, 3, api.OK)
	check("7 7, 6 6, 5 gone, 4 4, 3 3")
	release(t, x, 3, api.OK)
	check("7 7, 6 6")
	at(t, "P1004", x, "a", 5, "")
	release(t, x, 5, api.OK)
	hold(t, x, 11)
	apply(t, x, "a=12")
	check("7 7")
	at(t, "P1004", x, "a", 11, "7")
	check("12 12, 7 7")
	release(t, x, 11, api.OK)
	check("12 12")
	at(t, "P1004", x, "a", x.Seq(), "12")
}

// TestP1004TheBeginningIsHeld: of number 0 nothing is seen, but all behind it is kept.
func TestP1004TheBeginningIsHeld(t *testing.T) {
	x := fresh(t)
	hold(t, x, 0)
	apply(t, x, "a=1", "a=2", "a")
	flush(t, x)
	compacted(t, x)
	if got := versions(t, x, "a"); got != "3 gone, 2 2, 1 1" {
		t.Errorf("P1004: of a there are %q", got)
	}
	at(t, "P1004", x, "a", 0, "")
	sees(t, "P1004", x, "")
}

func TestP1004NothingIsHeldBehindOpen(t *testing.T) {
	x := fresh(t)
	apply(t, x, "a=1")
	hold(t, x, 1)
	apply(t, x, "a=2", "a=3")
	y := open(t, x.Disk, calm())
	for n := range uint64(5) {
		release(t, y, n, api.ErrNone)
	}
	flush(t, y)
	compacted(t, y)
	if got := versions(t, y, "a"); got != "3 3" {
		t.Errorf("P1004: of a there are %q", got)
	}
}
