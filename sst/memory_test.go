package sst_test

import (
	"bytes"
	"iter"
	"runtime"
	"slices"
	"strings"
	"testing"

	"glacier/api"
	"glacier/sst"
)

// scribble writes over a slice and its spare room.
func scribble(b []byte) {
	b = b[:cap(b)]
	for i := range b {
		b[i] = '?'
	}
}

// roomy is a list that is right, has spare room with entries in it, and Values that all lie in one memory.
type roomy struct {
	memory []byte
	list   []api.Entry
}

func newRoomy() *roomy {
	m := []byte("xyzuvwROOM")
	return &roomy{memory: m, list: []api.Entry{
		{Key: "a", Seq: 3, Value: m[:3]},
		{Key: "a", Seq: 2, Gone: true, Value: m[3:3]},
		{Key: "a", Seq: 1, Value: m[3:6]},
		{Key: "b", Seq: 1, Value: m[:2]},
		{Key: "c", Seq: 1, Gone: true, Value: m[6:6]},
		{Key: "room", Seq: 9, Value: m[6:]},
	}[:5]}
}

const inRoomy = "a 3 xyz, a 2 gone, a 1 uvw, b 1 xy, c 1 gone"

// unchanged asks that it is as it was made.
func (r *roomy) unchanged(t *testing.T, call string) {
	t.Helper()
	if s := show(r.list[:6]); s != inRoomy+", room 9 ROOM" || string(r.memory) != "xyzuvwROOM" {
		t.Errorf("P2: behind %s what was handed in is %q, %q", call, s, r.memory)
	}
}

func TestP2WhatBuildIsHandedInIsNotChanged(t *testing.T) {
	want := plainParts(plainBlocks(row(inRoomy), 9)...).bytes()
	r := newRoomy()
	b := build(t, r.list, 9)
	r.unchanged(t, "Build")
	again := build(t, r.list, 9)
	scribble(b)
	r.unchanged(t, "Build and writes over what it told")
	if !bytes.Equal(again, want) || !bytes.Equal(build(t, r.list, 9), want) {
		t.Error("P2: another answer of Build has changed")
	}
	scribble(r.memory)
	clear(r.list[:6])
	if !bytes.Equal(again, want) {
		t.Error("P2: an answer of Build has changed with what was handed in")
	}
}

func TestP2WhatBuildRefusesIsNotChanged(t *testing.T) {
	r := newRoomy()
	r.list[0].Key = "b" // no more right
	want := show(r.list[:6])
	for _, block := range []int{0, 1, api.MaxValue + 1} {
		sst.Build(r.list, block)
	}
	if s := show(r.list[:6]); s != want || string(r.memory) != "xyzuvwROOM" {
		t.Errorf("P2: behind Build a list that is not right is %q, %q", s, r.memory)
	}
}

// guarded tells bytes with spare room, and a call that asks whether both are as they were.
func guarded(t *testing.T, b []byte) ([]byte, func()) {
	whole := append(bytes.Clone(b), "SPARE ROOM"...)
	was := bytes.Clone(whole)
	return whole[:len(b)], func() {
		t.Helper()
		if !bytes.Equal(whole, was) {
			t.Errorf("P2: what was handed in has changed to % x; it was % x", whole, was)
		}
	}
}

func TestP2WhatOpenIsHandedInIsNotChanged(t *testing.T) {
	for _, p := range tables() {
		b, whole := guarded(t, p.bytes())
		x := open(t, b)
		for e := range x.All() {
			scribble(e.Value)
			x.Get(e.Key, e.Seq)
			x.May(e.Key)
		}
		whole()
	}
	for i, n := range []int{0, 5, 27, 28, 40} {
		b, whole := guarded(t, bytes.Repeat([]byte{byte(i)}, n))
		sst.Open(b)
		whole()
	}
	for _, payload := range badPayloads() {
		b, whole := guarded(t, plainParts(row("a 5 x, a 4 y"), row("m 9 z")).withBlock(1, payload).bytes())
		sst.Open(b)
		whole()
	}
}

func TestP2WhatOpenIsHandedInIsNotKept(t *testing.T) {
	for _, p := range tables() {
		l := entriesOf(t, p.bytes())
		var lists [][]api.Entry
		for rest := l; len(lists) < len(p.blocks); rest = rest[len(lists[len(lists)-1]):] {
			n, _ := plainRead(p.blocks[len(lists)])
			lists = append(lists, rest[:len(n)])
		}
		b, _ := guarded(t, p.bytes())
		x := open(t, b)
		all := x.All()
		scribble(b)
		tells(t, x, lists)
		over(t, "P2: All", all, l)
	}
}

func TestP2GetsAreNewMemory(t *testing.T) {
	l := row(inRoomy)
	x := table(t, l, 9)
	for _, e := range l {
		first, _ := x.Get(e.Key, e.Seq)
		other, _ := x.Get(e.Key, e.Seq)
		scribble(first.Value)
		_ = append(first.Value, "??????????"...)
		if !same(other, e) {
			t.Errorf("P2: another answer of Get is changed to %q; want %q", word(other), word(e))
		}
		has(t, "P2: Get", x, l, len(plainBlocks(l, 9)))
	}
}

func TestP2SequencesTellNewMemory(t *testing.T) {
	l := row(inRoomy)
	x := table(t, l, 9)
	for what, seq := range map[string]iter.Seq[api.Entry]{"All": x.All(), "From": x.From("a")} {
		var told []api.Entry
		for e := range seq {
			told = append(told, e)
		}
		for i := range told {
			scribble(told[i].Value)
			_ = append(told[i].Value, "??????????"...)
			for j := i + 1; j < len(told); j++ {
				if !same(told[j], l[j]) {
					t.Errorf("P2: %s tells %q, when a Value ahead is written over; want %q", what, word(told[j]), word(l[j]))
				}
			}
		}
		over(t, "P2: "+what, seq, l)
	}
	has(t, "P2", x, l, len(plainBlocks(l, 9)))
}

func TestP2TablesOfTheSameBytesAreApart(t *testing.T) {
	l := numbered(10)
	b := build(t, l, 30)
	x, y := open(t, b), open(t, b)
	if x == y {
		t.Error("P7: two calls of Open tell the same table")
	}
	for e := range x.All() {
		scribble(e.Value)
	}
	has(t, "P7", y, l, len(plainBlocks(l, 30)))
}

// heap tells how many bytes are kept.
func heap() int {
	var m runtime.MemStats
	runtime.GC()
	runtime.ReadMemStats(&m)
	return int(m.HeapAlloc)
}

// TestP2KeysThatAreAskedForAreNotKept asks for keys that are pieces of great texts.
func TestP2KeysThatAreAskedForAreNotKept(t *testing.T) {
	x := table(t, row("a 1 x, b 1 y"), 9)
	was := heap()
	var seqs []iter.Seq[api.Entry]
	var told []api.Entry
	for range 100 {
		text := strings.Repeat("b", 1<<20)
		seqs = append(seqs, x.From(text[:1]))
		e, _ := x.Get(text[:1], 1)
		told = append(told, e)
		x.May(text[:1])
	}
	if more := heap() - was; more > 10<<20 {
		t.Errorf("P2: of %d keys of a byte %d bytes are kept", len(seqs), more)
	}
	over(t, "P2: From", seqs[99], row("b 1 y"))
	runtime.KeepAlive(told)
}

// TestP2NoMoreThanTheEntriesIsKept opens tables of few entries, and keeps no more than an answer of each.
func TestP2NoMoreThanTheEntriesIsKept(t *testing.T) {
	long := value("b", 1, strings.Repeat("x", 1<<20))
	was := heap()
	var told []api.Entry
	for range 100 {
		x := table(t, []api.Entry{value("a", 1, "x"), long, value("c", 1, "y")}, 1<<21)
		e, _ := x.Get("c", 1)
		first, last, _ := x.Bounds()
		told = append(told, e, api.Entry{Key: first}, api.Entry{Key: last})
		told = append(told, slices.Collect(x.From("bb"))...)
	}
	if more := heap() - was; more > 10<<20 {
		t.Errorf("P2: beside %d answers of a byte %d bytes are kept", len(told), more)
	}
	runtime.KeepAlive(told)
}
