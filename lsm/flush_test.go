package lsm_test

import (
	"fmt"
	"testing"

	"glacier/api"
	"glacier/lsm"
	"glacier/manifest"
)

func TestP1005Flush(t *testing.T) {
	x := fresh(t)
	apply(t, x, "a=1 b=2 c=3", "a b=4", "d")
	was := frames(t, x.Disk, "manifest-000000")
	flush(t, x)
	v := x.Version()
	holdsTables(t, x, "0 a d")
	if got := entries(inside(t, x.Disk, v.Tables[0])); got != "a 2 gone, a 1 1, b 2 4, b 1 2, c 1 3, d 3 gone" {
		t.Errorf("P1005: the table has %s", got)
	}
	if v.Seq != 3 || v.Wal != 1 || v.Next != v.Tables[0].File+1 || frames(t, x.Disk, "manifest-000000") != was+1 {
		t.Errorf("P1005: version %v by %d commits", v, frames(t, x.Disk, "manifest-000000"))
	}
	if bytesOf(t, x.Disk, theLog(1)) != "" {
		t.Error("P1005: the log has bytes")
	}
	whole(t, x)
	sees(t, "P1006", x, "b 2 4, c 1 3")
	// Another one stands beside the first.
	flushed(t, x, "c d=5")
	holdsTables(t, x, "0 a d, 0 c d")
	if v = x.Version(); v.Seq != 4 || v.Wal != 2 {
		t.Errorf("P1005: version %v", v)
	}
	whole(t, x)
	sees(t, "P1006", x, "b 2 4, d 4 5")
	sees(t, "P1006", open(t, x.Disk, calm()), "b 2 4, d 4 5")
}

func TestP1005FlushOfNothing(t *testing.T) {
	x := fresh(t)
	check := func() {
		t.Helper()
		was := show(t, x.Disk)
		ok(t, "P1005: Flush", x.Flush())
		is(t, "P1005: Flush of nothing", x.Disk, was)
	}
	check()
	apply(t, x, "a=1")
	flush(t, x)
	check()
	x = open(t, x.Disk, calm())
	check()
	x.Apply()
	x.Apply(write(string(make([]byte, 70000)), ""))
	check()
	if x.Seq() != 1 {
		t.Errorf("P1005: Seq %d", x.Seq())
	}
}

// TestP1005FlushOnAFullDisk flushes where there is more and more room, up to what that takes.
func TestP1005FlushOnAFullDisk(t *testing.T) {
	const size = 2000
	start := made(t, size)
	x := open(t, start, calm())
	flushed(t, x, "a=1 b=2")
	apply(t, x, "a=3 c=4", "b", "d=5")
	const want = "a 2 3, c 2 4, d 4 5"
	succeeded := 0
	for free := range 160 {
		d := start.Twin()
		fill(t, d, size, free)
		x := open(t, d, calm())
		was, v := show(t, d), fmt.Sprint(x.Version())
		err := x.Flush()
		if err == api.OK {
			succeeded++
			holdsTables(t, x, "0 a b, 0 a d")
			whole(t, x)
		} else {
			if err != api.ErrFull || succeeded > 0 {
				t.Errorf("P1005: Flush with room for %d bytes: %v", free, err)
			}
			is(t, "P1005: a Flush that was refused", d, was)
			if s := fmt.Sprint(x.Version()); s != v {
				t.Errorf("P5: the version is %s; it was %s", s, v)
			}
		}
		goesOnFrom(t, x, want)
	}
	if succeeded == 0 || succeeded == 160 {
		t.Errorf("P1005: of 160 Flushes %d succeeded", succeeded)
	}
}

// goesOnFrom asks what a tree tells, ahead of and behind a crash, and that it goes on where there is room.
func goesOnFrom(t *testing.T, x *lsm.DB, want string) {
	t.Helper()
	sees(t, "P1006", x, want)
	twin := x.Twin()
	twin.Crash(9, 9, 9, 9, 9, 9, 9, 9, 9)
	sees(t, "P1007", open(t, twin, calm()), want)
	ok(t, "Delete", x.Delete("zz-fill"))
	apply(t, x, "more=1")
	flush(t, x)
	seq := x.Seq()
	want = fmt.Sprintf("%s, more %d 1", want, seq)
	for done, err := true, api.OK; done; {
		sees(t, "P1006", x, want)
		sees(t, "P1006", open(t, x.Twin(), calm()), want)
		done, err = x.Compact()
		ok(t, "P1005: Compact", err)
	}
	whole(t, x)
}

// TestP1005FlushPassesOverFilesThatAreLeft: nothing is written behind their bytes, and they are left for Sweep.
func TestP1005FlushPassesOverFilesThatAreLeft(t *testing.T) {
	x := fresh(t)
	flushed(t, x, "a=1")
	next := x.Version().Next
	for n := range 3 {
		put(t, x.Disk, manifest.File(next+n), "left by a crash")
	}
	put(t, x.Disk, manifest.File(next+4), "left by a crash")
	flushed(t, x, "b=2")
	flushed(t, x, "c=3")
	var l []int
	for _, p := range x.Version().Tables {
		l = append(l, p.File)
	}
	if fmt.Sprint(l) != fmt.Sprint([]int{next - 1, next + 3, next + 5}) {
		t.Errorf("P1005: the tables' files are %v behind %d", l, next)
	}
	sees(t, "P1006", open(t, x.Disk, calm()), "a 1 1, b 2 2, c 3 3")
	for n := range 5 {
		if n != 3 && bytesOf(t, x.Disk, manifest.File(next+n)) != "left by a crash" {
			t.Errorf("P1005: %s was written to", manifest.File(next+n))
		}
	}
	if n := x.Sweep(); n != 4 {
		t.Errorf("P1005: Sweep: %d; want 4", n)
	}
	whole(t, x)
	compacted(t, x)
	whole(t, x)
	sees(t, "P1006", open(t, x.Disk, calm()), "a 1 1, b 2 2, c 3 3")
}

// TestP1005FlushWhereNextSaysTooLittle: a version may have tables of greater numbers than its Next.
func TestP1005FlushWhereNextSaysTooLittle(t *testing.T) {
	x := fresh(t)
	flushed(t, x, "a=1")
	p := x.Version().Tables[0]
	b := bytesOf(t, x.Disk, manifest.File(p.File))
	put(t, x.Disk, manifest.File(p.File+1), b)
	ok(t, "Commit", x.Commit(api.Edit{Drop: []int{p.File}, Add: []api.Table{{File: p.File + 1, First: "a", Last: "a", Size: p.Size}}}))
	x = open(t, x.Disk, calm())
	flushed(t, x, "b=2")
	sees(t, "P1006", open(t, x.Disk, calm()), "a 1 1, b 2 2")
}

// TestP1005TheLastSegment: behind it there is none with which the log could go on.
func TestP1005TheLastSegment(t *testing.T) {
	x := fresh(t)
	ok(t, "Commit", x.Commit(api.Edit{Wal: 999998}))
	x = open(t, x.Disk, calm())
	flushed(t, x, "a=1")
	apply(t, x, "b=2")
	was := show(t, x.Disk)
	if err := x.Flush(); err != api.ErrMany {
		t.Errorf("P1005: Flush: %v; want many", err)
	}
	is(t, "P5", x.Disk, was)
	apply(t, x, "c=3")
	sees(t, "P1006", open(t, x.Disk, calm()), "a 1 1, b 2 2, c 3 3")
}

func TestP1005Sweep(t *testing.T) {
	x := fresh(t)
	sweep := func(want int) {
		t.Helper()
		if n := x.Sweep(); n != want {
			t.Errorf("P1005: Sweep: %d; want %d", n, want)
		}
		whole(t, x)
	}
	sweep(0)
	apply(t, x, "a=1 b=2")
	sweep(0)
	flush(t, x)
	sweep(0)
	for _, name := range []string{"t-999999", "t-000009", "t-", "t-x", "t-0000000"} {
		put(t, x.Disk, name, "x")
	}
	for _, name := range []string{"zz-t-", "zz"} {
		put(t, x.Disk, name, "x")
	}
	sweep(5)
	sweep(0)
	if l := x.List("zz"); len(l) != 2 {
		t.Errorf("P1005: Sweep leaves %q", l)
	}
	sees(t, "P1006", x, "a 1 1, b 1 2")
	sees(t, "P1006", open(t, x.Disk, calm()), "a 1 1, b 1 2")
}
