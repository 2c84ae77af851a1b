package wal_test

import (
	"bytes"
	"slices"
	"testing"

	"glacier/api"
	"glacier/wal"
)

// scribble writes over a slice and its spare room.
func scribble(b []byte) {
	b = b[:cap(b)]
	for i := range b {
		b[i] = '?'
	}
}

func TestP2WhatIsHandedInIsNotKept(t *testing.T) {
	d := made(t, 99)
	l := open(t, d, 0)
	room := []byte("xyzROOM")
	list := [][]byte{room[:3], room[1:2], []byte("spare")}
	ok(t, "P402: Append", l.Append(list[:2]...))
	if string(room) != "xyzROOM" || string(list[0]) != "xyz" || string(list[1]) != "y" || string(list[2]) != "spare" {
		t.Errorf("P2: Append has changed %q, %q", room, list)
	}
	scribble(room)
	list[0] = nil
	open(t, d, 0, "xyz", "y")
}

func TestP2AnswersAreNewMemory(t *testing.T) {
	d := made(t, 99)
	put(t, d, "log-000000", frames("ab", "", "cd"))
	put(t, d, "log-000001", frames("ef"), []byte("torn"))
	l, told, err := wal.Open(d, "log", 0)
	ok(t, "P401: Open", err)
	want := []string{"ab", "", "cd", "ef"}
	for i := range told {
		if !slices.Equal(texts(told), want) {
			t.Fatalf("P2: %q; want %q", texts(told), want)
		}
		scribble(told[i])
		want[i] = string(bytes.Repeat([]byte("?"), len(want[i])))
	}
	_ = append(told[:cap(told)][:0], nil, nil, nil, nil)
	lay(t, l, "gh")
	open(t, d, 0, "ab", "", "cd", "ef", "gh")
}

func TestP7LogsAreApart(t *testing.T) {
	d, x := made(t, 99), made(t, 99)
	a, _, err := wal.Open(d, "a", 0)
	ok(t, "P401: Open", err)
	aa, _, err := wal.Open(d, "aa", 0)
	ok(t, "P401: Open", err)
	other, _, err := wal.Open(x, "a", 0)
	ok(t, "P401: Open", err)
	lay(t, a, "1")
	ok(t, "P403: Rotate", a.Rotate())
	lay(t, aa, "2")
	lay(t, other, "3")
	ok(t, "P403: Truncate", a.Truncate(1))
	is(t, "P7", d, "a-000001 |; aa-000000 |2")
	is(t, "P7", x, "a-000000 |3")
	if other.Segment() != 0 || aa.First() != 0 || aa.Truncate(1) != api.ErrArg {
		t.Errorf("P7: a log hangs on another one")
	}
}

func TestP3TheSameCallsAnswerTheSame(t *testing.T) {
	tell := func() []string {
		var l []string
		r := newRun(t, 9)
		for range 400 {
			err, _ := r.step()
			l = append(l, err+" "+show(t, r.d))
		}
		return l
	}
	if a, b := tell(), tell(); !slices.Equal(a, b) {
		t.Errorf("P3: two runs of the same calls tell %q and %q", a, b)
	}
}
