package wal_test

import (
	"math/rand"
	"slices"
	"strconv"
	"testing"

	"glacier/api"
	"glacier/disk"
	"glacier/wal"
)

// history is a log, and what was done with it: the payloads that are in it, segment by segment from the
// number from on, and how many of the last segment's are synced.
type history struct {
	t      *testing.T
	d      *disk.Disk
	l      *wal.Log
	from   int
	in     [][]string
	synced int
}

func begin(t *testing.T, size, first int) *history {
	t.Helper()
	d := made(t, size)
	return &history{t: t, d: d, l: open(t, d, first), from: first, in: make([][]string, 1)}
}

func (h *history) last() *[]string { return &h.in[len(h.in)-1] }

// all tells the payloads that Open may tell, and how many of them it must.
func (h *history) all() ([]string, int) {
	all := slices.Concat(h.in...)
	return all, len(all) - len(*h.last()) + h.synced
}

func (h *history) append(texts ...string) {
	h.t.Helper()
	if err := h.l.Append(payloads(texts...)...); err == api.OK {
		*h.last() = append(*h.last(), texts...)
	} else if err != api.ErrFull {
		h.t.Fatalf("P402: Append: %v", err)
	}
}

func (h *history) sync() {
	h.t.Helper()
	ok(h.t, "P402: Sync", h.l.Sync())
	h.synced = len(*h.last())
}

func (h *history) rotate() {
	h.t.Helper()
	ok(h.t, "P403: Rotate", h.l.Rotate())
	h.in, h.synced = append(h.in, nil), 0
}

func (h *history) truncate(below int) {
	h.t.Helper()
	ok(h.t, "P403: Truncate", h.l.Truncate(below))
	if gone := below - h.from; gone > 0 {
		h.in, h.from = h.in[gone:], below
	}
}

// reopen opens the log anew, behind a crash or not: what it tells is in it and synced from then on. False, if the
// disk has no room for that.
func (h *history) reopen() bool {
	h.t.Helper()
	l, told, err := wal.Open(h.d, "log", h.from)
	if err == api.ErrFull {
		return false
	}
	ok(h.t, "P404: Open", err)
	all, least := h.all()
	if len(told) < least || len(told) > len(all) || !slices.Equal(texts(told), all[:len(told)]) {
		h.t.Fatalf("P404: Open tells %q of %q; the first %d are synced", texts(told), all, least)
	}
	numbers(h.t, "P404", l, h.from, h.from+len(h.in)-1)
	kept := len(told) - (len(all) - len(*h.last()))
	h.l = l
	*h.last() = slices.Clone((*h.last())[:kept])
	h.synced = kept
	return true
}

// twin tells a history apart, that is as this one.
func (h *history) twin() *history {
	x := *h
	x.d, x.in = h.d.Twin(), slices.Clone(h.in)
	return &x
}

// crashEverywhere crashes twins with every pick that counts, once and twice, opens their logs once and twice,
// and lets them go on.
func (h *history) crashEverywhere() {
	h.t.Helper()
	files := h.d.List()
	place := slices.Index(files, wal.Segment("log", h.l.Segment()))
	for pick := range h.d.Unsynced(files[place]) + 1 {
		picks := make([]int, len(files))
		picks[place] = pick
		x := h.twin()
		x.d.Crash(picks...)
		x.mustReopen()
		whole, least := x.all()
		if least != len(whole) {
			h.t.Fatalf("P401: behind Open %d of %d payloads are synced", least, len(whole))
		}
		was := show(h.t, x.d)
		x.mustReopen()
		is(h.t, "P405", x.d, was)
		x.append("more")
		x.d.Crash(make([]int, place+1)...)
		x.mustReopen()
		if more, _ := x.all(); !slices.Equal(more, whole) {
			h.t.Fatalf("P404: behind two crashes %q are %q", whole, more)
		}
		x.append("more")
		x.sync()
		x.d.Crash()
		x.mustReopen()
		if more, _ := x.all(); !slices.Equal(more, append(whole, "more")) {
			h.t.Fatalf("P404: behind three crashes %q are %q", whole, more)
		}
	}
}

func (h *history) mustReopen() {
	h.t.Helper()
	if !h.reopen() {
		h.t.Fatal("P401: Open: full; the disk has room")
	}
}

func TestP404ACrashBehindEveryCall(t *testing.T) {
	for _, first := range []int{0, 9, 999995} {
		h := begin(t, 9999, first)
		for _, call := range []func(){
			func() {},
			func() { h.sync() },
			func() { h.append("a") },
			func() { h.append("bc", "", "d") },
			func() { h.sync() },
			func() { h.append("e") },
			func() { h.rotate() },
			func() { h.append() },
			func() { h.append("") },
			func() { h.append("fgh") },
			func() { h.mustReopen() },
			func() { h.append("i", "j") },
			func() { h.sync() },
			func() { h.append("k") },
			func() { h.truncate(first + 1) },
			func() { h.append(string(make([]byte, 130))) },
			func() { h.rotate() },
			func() { h.rotate() },
			func() { h.append("l") },
			func() { h.truncate(first + 3) },
			func() { h.sync() },
			func() { h.append("m", "n") },
			func() { h.rotate() },
			func() { h.append("o") },
			func() { h.truncate(first) },
			func() { h.truncate(-1) },
			func() { h.mustReopen() },
		} {
			call()
			h.crashEverywhere()
		}
		open(t, h.d, first+3, "l", "m", "n", "o")
	}
}

// TestP404OfWhatIsBelowFirst lets crashes tear, too, what nobody has opened.
func TestP404OfWhatIsBelowFirst(t *testing.T) {
	h := begin(t, 999, 2)
	put(t, h.d, "log-000001", frames("below"))
	h.append("a")
	h.sync()
	h.append("b")
	for pick := range 11 {
		x := h.twin()
		x.d.Crash(pick, 0)
		l := open(t, x.d, 2, "a")
		numbers(t, "P404", l, 1, 2)
	}
}

func TestP404OfAnyCalls(t *testing.T) {
	whole := 0
	for seed := range 150 {
		draw := rand.New(rand.NewSource(int64(seed)))
		h := begin(t, 60+draw.Intn(400), draw.Intn(3))
		steps := 0
		for steps < 300 && h.any(draw, strconv.Itoa(steps)) {
			steps++
		}
		if steps == 300 {
			whole++
		}
	}
	if whole < 50 {
		t.Errorf("P404: of 150 runs only %d came to their end", whole)
	}
}

// any does a call of any kind, or a crash; false, if a log is torn on a disk that has no room to lay it anew.
func (h *history) any(draw *rand.Rand, text string) bool {
	h.t.Helper()
	switch k := draw.Intn(20); {
	case k < 8:
		h.append(text, string(make([]byte, draw.Intn(9))))
	case k < 11:
		h.sync()
	case k < 13:
		h.rotate()
	case k < 15:
		h.truncate(h.from + draw.Intn(len(h.in)))
	case k < 16:
		h.d.Append("zz", make([]byte, draw.Intn(20)))
	case k < 18:
		return h.crash(draw)
	default:
		h.mustReopen()
	}
	return true
}

// crash crashes the disk, and opens the log; if there is no room for that, the disk crashes again, and is given room.
func (h *history) crash(draw *rand.Rand) bool {
	h.t.Helper()
	for range 3 {
		picks := make([]int, len(h.d.List()))
		for i := range picks {
			picks[i] = draw.Intn(50)
		}
		h.d.Crash(picks...)
		if h.reopen() {
			return true
		}
		h.d.Delete("zz")
	}
	return false
}
