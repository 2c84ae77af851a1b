package mem_test

import (
	"bytes"
	"runtime"
	"slices"
	"testing"

	"glacier/api"
	"glacier/mem"
)

// scribble writes over a slice and its spare room.
func scribble(b []byte) {
	b = b[:cap(b)]
	for i := range b {
		b[i] = '?'
	}
}

func TestP2WhatIsHandedInIsNotKept(t *testing.T) {
	room := []byte("xyzROOM")
	x := table(nil, api.Entry{Key: "a", Seq: 1, Value: room[:3]}, api.Entry{Key: "b", Seq: 1, Value: room[:3]})
	x.Put(api.Entry{Key: "b", Seq: 1, Value: room[1:3]})
	x.Put(api.Entry{Key: "c", Seq: 1, Gone: true, Value: room[:3]})
	all := x.All()
	if string(room) != "xyzROOM" {
		t.Errorf("P2: Put has changed what it was handed: %q", room)
	}
	scribble(room)
	is(t, "P2", x, "3, 56: a 1 xyz, b 1 yz, c 1 gone")
	got(t, x, "a", 1, "a 1 xyz")
	over(t, "P2", all, "a 1 xyz, b 1 yz, c 1 gone")
	if string(room) != "???????" {
		t.Errorf("P2: what was handed in is changed: %q", room)
	}
}

func TestP2DrawsAreNotKept(t *testing.T) {
	draws := []int{0, 3, 5, 11}
	x := mem.New(draws[:3]...)
	x.Put(value("a", 1, ""))
	draws[1], draws[2] = 11, 11
	x.Put(value("b", 1, ""))
	if x.Height() != 4 {
		t.Errorf("P2: a draw that was written over makes a height of %d; want 4", x.Height())
	}
	x.Put(value("c", 1, ""))
	x.Put(value("d", 1, ""))
	if x.Height() != 6 || !slices.Equal(draws, []int{0, 11, 11, 11}) {
		t.Errorf("P2: the height is %d, the draws %v; want 6, as they were written", x.Height(), draws)
	}
}

func TestP2GetsAreNewMemory(t *testing.T) {
	x := table(nil, value("a", 1, "xyz"), gone("b", 1))
	all := x.All()
	a, _ := x.Get("a", 1)
	again, _ := x.Get("a", 2)
	b, _ := x.Get("b", 1)
	scribble(a.Value)
	scribble(b.Value)
	if string(again.Value) != "xyz" {
		t.Errorf("P2: another answer of Get is changed: %q", again.Value)
	}
	is(t, "P2", x, "2, 37: a 1 xyz, b 1 gone")
	over(t, "P2", all, "a 1 xyz, b 1 gone")
	x.Put(value("a", 1, "new"))
	if !bytes.Equal(a.Value, []byte("???")) || string(again.Value) != "xyz" {
		t.Errorf("P2: answers have changed: %q, %q", a.Value, again.Value)
	}
}

func TestP2SequencesTellNewMemory(t *testing.T) {
	x := table([]int{2, 0}, value("a", 1, "xyz"), value("b", 1, "uvw"), gone("c", 1))
	all := x.All()
	x.Put(value("b", 1, "new"))
	var told []api.Entry
	for range 2 {
		for e := range all {
			scribble(e.Value)
			told = append(told, e)
		}
		for e := range x.From("b") {
			scribble(e.Value)
		}
	}
	over(t, "P2", all, "a 1 xyz, b 1 uvw, c 1 gone")
	is(t, "P2", x, "3, 57: a 1 xyz, b 1 new, c 1 gone")
	for _, e := range told {
		if string(e.Value) != "???" && !e.Gone {
			t.Errorf("P2: an answer has changed: %q", e.Value)
		}
	}
}

// heap tells how many bytes are kept.
func heap() int {
	var m runtime.MemStats
	runtime.GC()
	runtime.ReadMemStats(&m)
	return int(m.HeapAlloc)
}

// TestP502WhatAnotherHasTakenThePlaceOf: a version that is there no more is not kept, but for sequences.
func TestP502WhatAnotherHasTakenThePlaceOf(t *testing.T) {
	x := table(nil, value("a", 1, "first"), value("b", 1, "y"))
	was := heap()
	long := bytes.Repeat([]byte("x"), 1<<20)
	for range 100 {
		e, _ := x.Get("a", 1)
		for range x.All() {
			x.Put(api.Entry{Key: e.Key, Seq: e.Seq, Value: long})
		}
	}
	if more := heap() - was; more > 10<<20 {
		t.Errorf("P502: behind 100 puts of 1 MiB in one place %d bytes more are kept", more)
	}
	is(t, "P502", x, "2, 1048611: a 1 "+string(long)+", b 1 y")
}

// TestP2NoMoreThanAKeyIsKept puts keys that are pieces of great texts.
func TestP2NoMoreThanAKeyIsKept(t *testing.T) {
	x := mem.New(0, 1)
	was := heap()
	for i := range 100 {
		text := string(bytes.Repeat([]byte{byte(i)}, 1<<20))
		x.Put(gone(text[:1], 1))
		x.Put(gone(text[:1], 1))
	}
	if more := heap() - was; more > 10<<20 {
		t.Errorf("P2: of 100 keys of a byte %d bytes are kept", more)
	}
	if x.Len() != 100 || x.Size() != 1700 {
		t.Errorf("P503: %d versions of %d bytes; want 100 of 1700", x.Len(), x.Size())
	}
}
