package lsm_test

import (
	"fmt"
	"math/bits"
	"strings"
	"testing"

	"glacier/api"
	"glacier/compact"
	"glacier/lsm"
	"glacier/manifest"
	"glacier/sst"
)

// TestP1005GreatBlocks: with Values of the greatest size, and blocks that are to be as great as they may, a table can
// still be read back.
func TestP1005GreatBlocks(t *testing.T) {
	o := lsm.Options{Mem: 1 << 26, Block: api.MaxValue, Shape: compact.Shape{Zero: 2, Base: 1 << 30, Table: 1 << 26}}
	x := open(t, made(t, 1<<29), o)
	value := make([]byte, api.MaxValue/4-2)
	check := func(x *lsm.DB) {
		t.Helper()
		for n := range 5 {
			if b, is := x.Get(fmt.Sprint("k", n)); !is || len(b) != len(value) || b[n] != byte(n) || b[n+1] != 0 {
				t.Errorf("P1006: Get(k%d): %d bytes, %v", n, len(b), is)
			}
		}
	}
	for n := range 5 {
		value[n] = byte(n)
		if _, err := x.Apply(write(fmt.Sprint("k", n), string(value))); err != api.OK {
			t.Fatalf("P1002: %v", err)
		}
		value[n] = 0
	}
	if n := len(x.Version().Tables); n != 1 {
		t.Fatalf("P1002: %d tables", n)
	}
	check(x)
	flush(t, x)
	compacted(t, x)
	check(x)
	check(open(t, x.Disk, o))
}

// TestP1005MoreTablesThanThereMayBe: where each Key has a list of its own, there may be too many for a version.
func TestP1005MoreTablesThanThereMayBe(t *testing.T) {
	const most = 1 << 16
	for _, c := range []struct{ keys, least, most int }{{most, most, most}, {most + 1, most / 2, most}} {
		o := calm()
		o.Shape = compact.Shape{Zero: 1, Base: 1 << 30, Table: 1}
		o.Draws = nil
		var l []api.Write
		for n := range c.keys {
			l = append(l, write(fmt.Sprint("k", n), ""))
			o.Draws = append(o.Draws, bits.TrailingZeros(uint(n+1)))
		}
		x := open(t, made(t, 1<<26), o)
		if _, err := x.Apply(l...); err != api.OK {
			t.Fatalf("P1002: %v", err)
		}
		flush(t, x)
		compacted(t, x)
		v := x.Version()
		if n := len(v.Tables); n < c.least || n > c.most || v.Tables[0].Level != 1 {
			t.Errorf("P1005: of %d Keys there are %d tables, the first one %v", c.keys, n, v.Tables[0])
		}
		x = open(t, x.Disk, o)
		if got := x.Scan("", "", len(l)+1); len(got) != len(l) {
			t.Errorf("P1006: %d entries; want %d", len(got), len(l))
		}
		for _, n := range []int{0, 9, 99, c.keys - 1} {
			if _, is := x.Get(fmt.Sprint("k", n)); !is {
				t.Errorf("P1006: there is no k%d", n)
			}
		}
	}
}

// TestP1005AVersionThatIsFull: what cannot be added is refused, and changes nothing; a Compact makes room.
func TestP1005AVersionThatIsFull(t *testing.T) {
	x := open(t, made(t, 1<<26), calm())
	apply(t, x, "a=1")
	b, err := sst.Build([]api.Entry{{Key: "b", Seq: 1, Value: []byte("2")}}, 1)
	ok(t, "Build", err)
	e := api.Edit{Next: 1 << 16, Seq: 1}
	for n := range 1 << 16 {
		put(t, x.Disk, manifest.File(n), string(b))
		e.Add = append(e.Add, api.Table{File: n, First: "b", Last: "b", Size: len(b)})
	}
	ok(t, "Commit", x.Commit(e))
	x = open(t, x.Disk, calm())
	files := len(x.List())
	if err := x.Flush(); err == api.OK || len(x.List()) != files || x.Version().Next != 1<<16 {
		t.Errorf("P5: Flush: %v; %d files; want %d", err, len(x.List()), files)
	}
	sees(t, "P1006", x, "a 2 1, b 1 2")
	compacted(t, x)
	flush(t, x)
	holdsTables(t, x, "0 a a, 1 b b")
	sees(t, "P1006", open(t, x.Disk, calm()), "a 2 1, b 1 2")
}

// TestP1005GreatKeys: tables of great Keys are told by an edit that must still be read back.
func TestP1005GreatKeys(t *testing.T) {
	const count, size = 540, 65535
	o := calm()
	o.Shape = compact.Shape{Zero: 1, Base: 1 << 30, Table: 1}
	x := open(t, made(t, 1<<29), o)
	key := func(n int) string { return fmt.Sprintf("%03d", n) + strings.Repeat("k", size-3) }
	for n := 0; n < count; n += 180 {
		var l []api.Write
		for i := range 180 {
			l = append(l, write(key(n+i), fmt.Sprint(n+i)))
		}
		if _, err := x.Apply(l...); err != api.OK {
			t.Fatalf("P1002: %v", err)
		}
	}
	flush(t, x)
	compacted(t, x)
	x = open(t, x.Disk, o)
	if n := len(x.Version().Tables); n < 200 || n > 512 {
		t.Errorf("P1005: %d tables", n)
	}
	for _, n := range []int{0, 1, 179, 180, count - 1} {
		if b, is := x.Get(key(n)); !is || string(b) != fmt.Sprint(n) {
			t.Errorf("P1006: Get of key %d: %q, %v", n, b, is)
		}
	}
}
