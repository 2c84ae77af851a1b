package lsm_test

import (
	"bytes"
	"fmt"
	"math"
	"strings"
	"testing"
	"unsafe"

	"glacier/api"
	"glacier/lsm"
)

// apart asks that no text lies in a memory.
func apart(t *testing.T, what, memory string, texts ...string) {
	t.Helper()
	from := uintptr(unsafe.Pointer(unsafe.StringData(memory)))
	for _, s := range texts {
		at := uintptr(unsafe.Pointer(unsafe.StringData(s)))
		if s != "" && from <= at && at < from+uintptr(len(memory)) {
			t.Errorf("P2: %s: %q lies in the memory that was handed in", what, s)
		}
	}
}

// roomy are writes whose list has spare room with writes in it, whose Keys lie in one memory, and their Values in
// another one.
func roomy() (string, []byte, []api.Write) {
	k, m := strings.Repeat("abcdefgh", 3), []byte("xyzuvwROOM")
	l := []api.Write{
		{Key: k[0:1], Value: m[:3]},
		{Key: k[1:3], Value: m[3:6]},
		{Key: k[4:5], Gone: true, Value: m[4:5]},
		{Key: k[0:1], Value: m[1:4]},
		{Key: "room", Value: m[6:]},
	}
	return k, m, l[:4]
}

const inRoomy = "a 1 yzu, bc 1 uvw"

func TestP2Apply(t *testing.T) {
	for _, calls := range []func(x *lsm.DB){
		func(*lsm.DB) {},
		func(x *lsm.DB) { flush(t, x) },
		func(x *lsm.DB) { flush(t, x); compacted(t, x) },
	} {
		k, m, l := roomy()
		was := fmt.Sprint(l[:5], string(m))
		x := fresh(t)
		if _, err := x.Apply(l...); err != api.OK {
			t.Fatalf("P1002: %v", err)
		}
		long := []api.Write{l[0], {Key: strings.Repeat("k", 70000)}}
		x.Apply(long...)
		if s := fmt.Sprint(l[:5], string(m)); s != was {
			t.Errorf("P2: what was handed in is %s; it was %s", s, was)
		}
		clear(m)
		clear(l[:cap(l)])
		calls(x)
		sees(t, "P2", x, inRoomy)
		for _, e := range x.Scan("", "", 99) {
			apart(t, "Scan", k, e.Key)
		}
		for _, p := range x.Version().Tables {
			apart(t, "Version", k, p.First, p.Last)
		}
		sees(t, "P2", open(t, x.Disk, calm()), inRoomy)
	}
}

func TestP2Answers(t *testing.T) {
	for _, calls := range []func(x *lsm.DB){
		func(*lsm.DB) {},
		func(x *lsm.DB) { flush(t, x) },
		func(x *lsm.DB) { flush(t, x); compacted(t, x) },
		func(x *lsm.DB) { flush(t, x); *x = *open(t, x.Disk, calm()) },
	} {
		x := fresh(t)
		apply(t, x, "a=one b=two c=three")
		x.Hold()
		calls(x)
		const want = "a 1 one, b 1 two, c 1 three"
		spoil := func(b []byte) { clear(b[:cap(b)]) }
		b, _ := x.Get("a")
		other, _ := x.Get("a")
		spoil(b)
		if string(other) != "one" {
			t.Errorf("P2: two answers share memory: %q", other)
		}
		b, _ = x.At("b", 1)
		spoil(b)
		sees(t, "P2", x, want)
		l := x.Scan("", "", 99)
		again := entries(l[1:])
		spoil(l[0].Value)
		if entries(l[1:]) != again {
			t.Errorf("P2: two Values of an answer share memory: %s", entries(l))
		}
		for _, e := range l {
			spoil(e.Value)
		}
		clear(l[:cap(l)])
		sees(t, "P2", x, want)
		v := x.Version()
		clear(v.Tables[:cap(v.Tables)])
		sees(t, "P2", x, want)
		flush(t, x)
		x.Compact()
		sees(t, "P2", x, want)
		sees(t, "P2", open(t, x.Disk, calm()), want)
	}
}

// TestP2AnswersStay what they are, whatever is done behind them.
func TestP2AnswersStay(t *testing.T) {
	x := fresh(t)
	apply(t, x, "a=one b=two")
	b, _ := x.Get("a")
	l := x.Scan("", "", 9)
	flushed(t, x, "a=xxx b=xxx")
	v := x.Version()
	was := fmt.Sprint(v)
	compacted(t, x)
	flushed(t, x, "a b")
	compacted(t, x)
	if string(b) != "one" || entries(l) != "a 1 one, b 1 two" || fmt.Sprint(v) != was {
		t.Errorf("P2: what was told has changed: %q, %s, %v", b, entries(l), v)
	}
}

// TestP2Draws are copied: with other ones the table would be another.
func TestP2Draws(t *testing.T) {
	o := calm()
	draws := []int{1, 2, 3, 77}
	o.Draws = draws[:3]
	d := made(t, 1<<20)
	x := open(t, d, o)
	clear(draws[:3])
	if draws[3] != 77 {
		t.Errorf("P2: the Draws' spare room has %d", draws[3])
	}
	for n := range 50 {
		flushed(t, x, fmt.Sprintf("k%d=%d", n, n))
	}
	if fmt.Sprint(draws) != "[0 0 0 77]" || len(x.Scan("", "", 99)) != 50 {
		t.Errorf("P2: Draws %v", draws)
	}
}

func TestP7TreesAreApart(t *testing.T) {
	d := old(t)
	x, y := open(t, d, calm()), open(t, d.Twin(), calm())
	apply(t, x, "a=x")
	apply(t, y, "a=y", "c")
	x.Hold()
	flush(t, y)
	compacted(t, y)
	sees(t, "P7", x, "a 6 x, c 1 2, y 4 7, z 3 6")
	sees(t, "P7", y, "a 6 y, y 4 7, z 3 6")
	release(t, y, 6, api.ErrNone)
	release(t, x, 6, api.OK)
}

// TestP1OfAnyNumbers: nothing panics, whatever is asked.
func TestP1OfAnyNumbers(t *testing.T) {
	for _, x := range []*lsm.DB{fresh(t), open(t, old(t), calm())} {
		want := entries(x.Scan("", "", 99))
		for _, n := range []uint64{0, 1, 2, math.MaxInt64, math.MaxUint64 - 1, math.MaxUint64} {
			release(t, x, n, api.ErrNone)
			for _, key := range []string{"", "a", "\xFF", string(bytes.Repeat([]byte{0xFF}, 1<<17))} {
				x.At(key, n)
				x.Get(key)
				for _, most := range []int{math.MinInt, -1, 0, 1, math.MaxInt} {
					x.Scan(key, key, most)
					x.Scan(key, "", most)
					x.Scan("", key, most)
				}
			}
		}
		x.Sweep()
		sees(t, "P1", x, want)
	}
}
