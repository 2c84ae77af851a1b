package net_test

import (
	"bytes"
	"slices"
	"testing"

	"glacier/net"
)

// scribble writes over a slice and its spare room.
func scribble(b []byte) {
	b = b[:cap(b)]
	for i := range b {
		b[i] = '?'
	}
}

func TestP2WhatIsHandedInIsNotKept(t *testing.T) {
	n := made(t, 3, 9)
	room := []byte("xyzROOM")
	receivers := []int{1, 2, 1, -1, 9, 0}
	to := receivers[:5]
	if k := n.Send(0, room[:3], to...); k != 3 {
		t.Errorf("P301: Send: %d; want 3", k)
	}
	if string(room) != "xyzROOM" || !slices.Equal(receivers, []int{1, 2, 1, -1, 9, 0}) {
		t.Errorf("P2: Send has changed %q, %v", room, receivers)
	}
	scribble(room)
	receivers[0] = 0
	n.Double(0, 1, 1)
	is(t, "P2", n, "0, 4; 0>1 xyz xyz xyz; 0>2 xyz")
	if string(room) != "???????" {
		t.Errorf("P2: what was handed in is changed: %q", room)
	}
}

func TestP2AnswersAreNewMemory(t *testing.T) {
	n := made(t, 2, 9)
	n.Send(0, []byte("xyz"), 1, 1, 0)
	n.Double(0, 1, 0)
	n.Double(0, 1, 2)
	for i := range 4 {
		m, ok := n.Deliver(0, 1, i)
		if !ok || string(m.Bytes) != "xyz" {
			t.Errorf("P2: message %d is %q, %v", i, m.Bytes, ok)
		}
		scribble(m.Bytes)
		lay(t, n, 1, 0, "new")
		if !bytes.Equal(m.Bytes, []byte("???")) {
			t.Errorf("P2: an answer has changed: %q", m.Bytes)
		}
	}
	if m, ok := n.Deliver(0, 0, 0); !ok || string(m.Bytes) != "xyz" {
		t.Errorf("P2: what was sent to another node is %q, %v", m.Bytes, ok)
	}
	is(t, "P2", n, "0, 4; 1>0 new new new new")
}

func TestP2LinksAreNewMemory(t *testing.T) {
	n := made(t, 2, 9)
	n.Send(0, []byte("x"), 0, 1)
	n.Links()[1] = net.Link{From: 7}
	l := n.Links()
	n.Send(0, []byte("y"), 1)
	if !slices.Equal(l, []net.Link{{From: 0, To: 0, Count: 1}, {From: 0, To: 1, Count: 1}}) {
		t.Errorf("P2: an answer has changed: %v", l)
	}
	is(t, "P2", n, "0, 3; 0>0 x; 0>1 x y")
}

func TestP7NetsAreApart(t *testing.T) {
	a, b := made(t, 2, 9), made(t, 2, 9)
	lay(t, a, 0, 1, "a")
	a.Tick()
	is(t, "P7", b, "0, 0")
	lay(t, b, 0, 1, "b")
	b.Clear(0)
	is(t, "P7", a, "1, 1; 0>1 a")
}
