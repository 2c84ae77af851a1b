package lsm_test

import (
	"fmt"
	"slices"
	"strings"
	"testing"

	"glacier/api"
	"glacier/disk"
	"glacier/lsm"
	"glacier/manifest"
)

// crashes crashes twins of a disk on which bytes of no more than one file are not synced, with every pick that
// counts, and hands them on with how many of these bytes are kept.
func crashes(d *disk.Disk, then func(d *disk.Disk, kept int)) {
	names := d.List()
	torn := slices.IndexFunc(names, func(name string) bool { return d.Unsynced(name) > 0 })
	if torn < 0 {
		x := d.Twin()
		x.Crash()
		then(x, 0)
		return
	}
	for kept := range d.Unsynced(names[torn]) + 1 {
		picks := make([]int, len(names))
		picks[torn] = kept
		x := d.Twin()
		x.Crash(picks...)
		then(x, kept)
	}
}

// goesOn asks what a disk's tree tells, and that it goes on from there, through all that works behind the scenes.
func goesOn(t *testing.T, what string, d *disk.Disk, want string, seq uint64) {
	t.Helper()
	for range 2 {
		x := open(t, d, calm())
		sees(t, "P1007: "+what, x, want)
		if x.Seq() != seq {
			t.Errorf("P1007: %s: Seq %d; want %d", what, x.Seq(), seq)
		}
		d.Crash()
	}
	x := open(t, d, calm())
	orphans := len(x.Orphans())
	apply(t, x, "zz=1")
	want = strings.TrimPrefix(fmt.Sprintf("%s, zz %d 1", want, seq+1), ", ")
	flush(t, x)
	sees(t, "P1007: "+what, x, want)
	x = open(t, d, calm())
	compacted(t, x)
	sees(t, "P1007: "+what, x, want)
	x = open(t, d, calm())
	sees(t, "P1007: "+what, x, want)
	if n := x.Sweep(); n != orphans {
		t.Errorf("P1005: %s: Sweep: %d; want %d", what, n, orphans)
	}
	whole(t, x)
	sees(t, "P1007: "+what, open(t, d, calm()), want)
}

// step is one that a call does on the disk.
type step func(d *disk.Disk)

// stepsOf tells the steps that bring a disk from one state to another: files that are new, in the order of after,
// then bytes behind those of files, then files that are gone. What is laid is synced by a step of its own.
func stepsOf(t *testing.T, from, to *disk.Disk, order ...string) []step {
	t.Helper()
	var steps []step
	laid := func(name, b string) {
		steps = append(steps,
			func(d *disk.Disk) { ok(t, "Append", d.Append(name, []byte(b))) },
			func(d *disk.Disk) { ok(t, "Sync", d.Sync(name)) })
	}
	for _, prefix := range order {
		for _, name := range to.List(prefix) {
			b := bytesOf(t, to, name)
			if !slices.Contains(from.List(), name) {
				laid(name, b)
			} else if was := bytesOf(t, from, name); was != b {
				laid(name, strings.TrimPrefix(b, was))
			}
		}
	}
	for _, name := range from.List() {
		if !slices.Contains(to.List(), name) {
			steps = append(steps, func(d *disk.Disk) { ok(t, "Delete", d.Delete(name)) })
		}
	}
	return steps
}

// within does a call, and then what it did step by step, crashing behind each of them.
func within(t *testing.T, what string, x *lsm.DB, call func(x *lsm.DB), order ...string) {
	t.Helper()
	from := x.Twin()
	want, seq := entries(x.Scan("", "", 999)), x.Seq()
	call(x)
	sees(t, "P1006: "+what, x, want)
	d := from.Twin()
	for n, do := range stepsOf(t, from, x.Disk, order...) {
		do(d)
		crashes(d, func(d *disk.Disk, kept int) {
			goesOn(t, fmt.Sprintf("%s, step %d, %d bytes kept", what, n, kept), d, want, seq)
		})
	}
	is(t, "P1007: the steps of "+what, d, show(t, x.Disk))
}

// TestP1007WithinFlush: the table is laid and synced, the commit adds it, the log begins anew, what is elder goes.
func TestP1007WithinFlush(t *testing.T) {
	for n := range 4 {
		x := fresh(t)
		for i := range n {
			flushed(t, x, fmt.Sprintf("a=%d b%d=%d", i, i, i))
		}
		apply(t, x, "a=new c=1", "b0", "d=2 e=3")
		within(t, "Flush", x, func(x *lsm.DB) { flush(t, x) }, "t-", "manifest-", "wal-")
	}
}

// TestP1007WithinCompact: the outputs are laid and synced, the commit takes them for the inputs, and these go.
func TestP1007WithinCompact(t *testing.T) {
	x := fresh(t)
	flushed(t, x, "a=1 b=1 c=1 d=1 e=1 f=1")
	within(t, "Compact", x, func(x *lsm.DB) { compacted(t, x) }, "t-", "manifest-")
	flushed(t, x, "a=2 b e=2")
	flushed(t, x, "b=3 c")
	apply(t, x, "f=4", "g=5")
	for n := range 8 {
		within(t, fmt.Sprint("Compact ", n), x, func(x *lsm.DB) {
			if _, err := x.Compact(); err != api.OK {
				t.Fatalf("P1005: %v", err)
			}
		}, "t-", "manifest-")
	}
	if done, _ := x.Compact(); done {
		t.Error("P1005: there is still a job")
	}
}

// TestP1007WithinApply: a batch is there whole or not at all, wherever its bytes are torn.
func TestP1007WithinApply(t *testing.T) {
	x := fresh(t)
	flushed(t, x, "a=0 b=0")
	was := "a 1 0, b 1 0"
	for n, c := range []struct{ text, want string }{
		{"a=1 c=1", "a 2 1, b 1 0, c 2 1"},
		{"b", "a 2 1, c 2 1"},
		{"d=2 e=3 a f=4", "c 2 1, d 4 2, e 4 3, f 4 4"},
	} {
		d := x.Twin()
		apply(t, x, c.text)
		log := bytesOf(t, x.Disk, theLog(1))
		laid := strings.TrimPrefix(log, bytesOf(t, d, theLog(1)))
		for size := range len(laid) + 1 {
			twin := d.Twin()
			ok(t, "Append", twin.Append(theLog(1), []byte(laid[:size])))
			crashes(twin, func(d *disk.Disk, kept int) {
				if kept == len(laid) {
					goesOn(t, fmt.Sprint("Apply ", n, " whole"), d, c.want, uint64(n+2))
				} else {
					goesOn(t, fmt.Sprint("Apply ", n, " torn at ", kept), d, was, uint64(n+1))
				}
			})
		}
		was = c.want
	}
}

// TestP1007WithinSweep: the files go one by one.
func TestP1007WithinSweep(t *testing.T) {
	x := fresh(t)
	flushed(t, x, "a=1 b=2")
	apply(t, x, "c=3")
	for n := range 4 {
		put(t, x.Disk, manifest.File(x.Version().Next+n), "left by a crash")
	}
	within(t, "Sweep", x, func(x *lsm.DB) { x.Sweep() })
}

// TestP1007BehindEveryCall: of what was done nothing is left to a crash.
func TestP1007BehindEveryCall(t *testing.T) {
	x := fresh(t)
	for n, do := range []func(){
		func() {},
		func() { apply(t, x, "a=1 b=1") },
		func() { flush(t, x) },
		func() { apply(t, x, "a=2", "c=2") },
		func() { compacted(t, x) },
		func() { flush(t, x) },
		func() { compacted(t, x) },
		func() { x.Hold() },
		func() { apply(t, x, "b") },
		func() { flush(t, x) },
		func() { compacted(t, x) },
		func() { compacted(t, x) },
		func() { x.Sweep() },
		func() { x = open(t, x.Disk, calm()) },
	} {
		do()
		whole(t, x)
		crashes(x.Disk, func(d *disk.Disk, _ int) {
			goesOn(t, fmt.Sprint("behind call ", n), d, entries(x.Scan("", "", 99)), x.Seq())
		})
	}
}

// TestP1007ALostDisk has a tree without anything.
func TestP1007ALostDisk(t *testing.T) {
	d := old(t)
	d.Lose()
	x := open(t, d, calm())
	sees(t, "P1001", x, "")
	if x.Seq() != 0 {
		t.Errorf("P1003: Seq %d; want 0", x.Seq())
	}
	apply(t, x, "a=1")
	sees(t, "P1007", open(t, d, calm()), "a 1 1")
}
