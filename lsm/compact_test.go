package lsm_test

import (
	"fmt"
	"strings"
	"testing"

	"glacier/api"
	"glacier/compact"
	"glacier/lsm"
	"glacier/manifest"
)

// done tells what a job must leave of a tree: of each table its level and its entries.
func done(t *testing.T, x *lsm.DB, j compact.Job, s compact.Shape, keep uint64) map[string]int {
	t.Helper()
	left := map[string]int{}
	dropped := map[int]bool{}
	for _, file := range j.Inputs {
		dropped[file] = true
	}
	var lists [][]api.Entry
	v := x.Version()
	for _, p := range v.Tables {
		if l := inside(t, x.Disk, p); dropped[p.File] {
			lists = append(lists, l)
		} else {
			left[fmt.Sprint(p.Level, ": ", entries(l))]++
		}
	}
	if !compact.Move(v, j) {
		var err api.Errno
		lists, err = compact.Run(keep, j.Bottom, s.Table, lists...)
		ok(t, "Run", err)
	}
	for _, l := range lists {
		left[fmt.Sprint(j.Level+1, ": ", entries(l))]++
	}
	return left
}

// checkCompact does a Compact where there is room, and asks that it does what compact picks; whether there was a job.
func checkCompact(t *testing.T, x *lsm.DB, s compact.Shape, keep uint64) bool {
	t.Helper()
	v, was := x.Version(), show(t, x.Disk)
	j, is := compact.Pick(v, s)
	want := done(t, x, j, s, keep)
	current := "manifest-" + fmt.Sprintf("%06d", x.Number())
	commits := frames(t, x.Disk, current)
	did, err := x.Compact()
	if did != is || err != api.OK {
		t.Fatalf("P1005: Compact of %v: %v, %v; want %v", v, did, err, is)
	}
	if !is {
		if show(t, x.Disk) != was {
			t.Fatalf("P1005: Compact of nothing has changed the disk")
		}
		return false
	}
	got := map[string]int{}
	for _, p := range x.Version().Tables {
		got[fmt.Sprint(p.Level, ": ", entries(inside(t, x.Disk, p)))]++
	}
	if fmt.Sprint(got) != fmt.Sprint(want) {
		t.Fatalf("P1005: behind %v there are %v; want %v", j, got, want)
	}
	if now := x.Version(); now.Seq != v.Seq || now.Wal != v.Wal || now.Next < v.Next {
		t.Fatalf("P1005: the version was %v, and is %v", v, now)
	}
	if fmt.Sprintf("manifest-%06d", x.Number()) == current && frames(t, x.Disk, current) != commits+1 {
		t.Fatalf("P1005: Compact makes %d commits", frames(t, x.Disk, current)-commits)
	}
	whole(t, x)
	return true
}

func TestP1005CompactOfNothing(t *testing.T) {
	x := fresh(t)
	checkCompact(t, x, calm().Shape, 0)
	apply(t, x, "a=1")
	if checkCompact(t, x, calm().Shape, 1) {
		t.Error("P1005: what is in memory is compacted")
	}
	o := calm()
	o.Shape = compact.Shape{Zero: 3, Base: 1000, Table: 50}
	x = open(t, x.Disk, o)
	flush(t, x)
	flushed(t, x, "a=2")
	if checkCompact(t, x, o.Shape, 2) {
		t.Error("P1005: there is a job; want none")
	}
	flushed(t, x, "a=3")
	if !checkCompact(t, x, o.Shape, 3) || checkCompact(t, x, o.Shape, 3) {
		t.Error("P1005: there is no job; want one")
	}
}

func TestP1005CompactRuns(t *testing.T) {
	x := fresh(t)
	flushed(t, x, "a=1 b=1 c=1 d=1 e=1 f=1 g=1 h=1")
	checkCompact(t, x, calm().Shape, 1)
	holdsTables(t, x, "1 a d, 1 e h")
	flushed(t, x, "d=2 e")
	flushed(t, x, "d=3 f=3")
	checkCompact(t, x, calm().Shape, 3)
	// What is Gone has gone with what was below it.
	holdsTables(t, x, "1 a d, 1 f h")
	sees(t, "P1006", x, "a 1 1, b 1 1, c 1 1, d 3 3, f 3 3, g 1 1, h 1 1")
	// Now all can go.
	flushed(t, x, "a b c d e f g h")
	checkCompact(t, x, calm().Shape, 4)
	holdsTables(t, x, "")
	sees(t, "P1006", x, "")
	whole(t, x)
	x = open(t, x.Disk, calm())
	if x.Seq() != 4 {
		t.Errorf("P1003: Seq %d; want 4", x.Seq())
	}
}

// TestP1005CompactKeepsWhatIsGone as long as something elder lies below.
func TestP1005CompactKeepsWhatIsGone(t *testing.T) {
	x := fresh(t)
	flushed(t, x, "a=1 b=1")
	checkCompact(t, x, calm().Shape, 1)
	checkCompact(t, x, calm().Shape, 1)
	holdsTables(t, x, "2 a b")
	flushed(t, x, "a")
	checkCompact(t, x, calm().Shape, 2)
	holdsTables(t, x, "1 a a, 2 a b")
	sees(t, "P1006", x, "b 1 1")
	for checkCompact(t, x, calm().Shape, 2) {
		sees(t, "P1006", x, "b 1 1")
		sees(t, "P1006", open(t, x.Disk, calm()), "b 1 1")
	}
	for _, p := range x.Version().Tables {
		if l := inside(t, x.Disk, p); p.Level == 3 && entries(l) != "b 1 1" {
			t.Errorf("P1005: level 3 has %s", entries(l))
		}
	}
}

// TestP1005CompactMoves a table down as it is, without room for another one.
func TestP1005CompactMoves(t *testing.T) {
	const size = 9999
	x := open(t, made(t, size), calm())
	flushed(t, x, "a="+strings.Repeat("x", 2000))
	compacted(t, x)
	fill(t, x.Disk, size, 200)
	b := bytesOf(t, x.Disk, manifest.File(x.Version().Tables[0].File))
	for level := 2; level <= 5; level++ {
		if !checkCompact(t, x, calm().Shape, 1) {
			t.Fatalf("P1005: no job ahead of level %d", level)
		}
		p := x.Version().Tables[0]
		if p.Level != level || bytesOf(t, x.Disk, manifest.File(p.File)) != b {
			t.Errorf("P1005: the table is %v; want it on level %d", p, level)
		}
		y := open(t, x.Disk, calm())
		if v, is := y.Get("a"); !is || len(v) != 2000 {
			t.Errorf("P1006: on level %d: %d bytes, %v", level, len(v), is)
		}
	}
	if checkCompact(t, x, calm().Shape, 1) {
		t.Error("P1005: there is a job; want none")
	}
}

// TestP1005CompactOnAFullDisk compacts where there is more and more room, up to what each job takes.
func TestP1005CompactOnAFullDisk(t *testing.T) {
	const size = 4000
	start := made(t, size)
	x := open(t, start, calm())
	flushed(t, x, "a=1 b=1 c=1 d=1 e=1 f=1 g=1 h=1")
	compacted(t, x)
	flushed(t, x, "d=2 e c=2")
	const want = "a 1 1, b 1 1, c 2 2, d 2 2, f 1 1, g 1 1, h 1 1"
	for job, least := range []int{100, 10, 10} {
		succeeded := -1
		for free := 0; free < 600; free++ {
			d := start.Twin()
			fill(t, d, size, free)
			x := open(t, d, calm())
			was, v := show(t, d), fmt.Sprint(x.Version())
			did, err := x.Compact()
			if did != (err == api.OK) || err == api.OK && free < least || err != api.OK && (err != api.ErrFull || succeeded >= 0) {
				t.Fatalf("P1005: Compact %d with room for %d bytes: %v, %v", job, free, did, err)
			}
			if did && succeeded < 0 {
				succeeded = free
				ok(t, "Delete", d.Delete("zz-fill"))
				whole(t, x)
				fill(t, d, size, 0)
			}
			if !did {
				is(t, "P1005: a Compact that was refused", d, was)
				if s := fmt.Sprint(x.Version()); s != v {
					t.Fatalf("P5: the version is %s; it was %s", s, v)
				}
			}
			if free%20 == 0 || free == succeeded {
				goesOnFrom(t, x, want)
			}
		}
		if succeeded < 0 {
			t.Fatalf("P1005: Compact %d has never succeeded", job)
		}
		compacted(t, open(t, start, calm()))
	}
}

// TestP1005CompactPassesOverFilesThatAreLeft: as Flush does.
func TestP1005CompactPassesOverFilesThatAreLeft(t *testing.T) {
	x := fresh(t)
	flushed(t, x, "a=1 b=1 c=1 d=1 e=1 f=1 g=1 h=1")
	next := x.Version().Next
	put(t, x.Disk, manifest.File(next), "left by a crash")
	put(t, x.Disk, manifest.File(next+2), "left by a crash")
	compacted(t, x)
	holdsTables(t, x, "1 a d, 1 e h")
	sees(t, "P1006", open(t, x.Disk, calm()), "a 1 1, b 1 1, c 1 1, d 1 1, e 1 1, f 1 1, g 1 1, h 1 1")
	if n := x.Sweep(); n != 2 {
		t.Errorf("P1005: Sweep: %d; want 2", n)
	}
	whole(t, x)
}

// TestP1005CompactOfWhatOthersCommit: a table that the tree has not opened is not merged, and nothing panics.
func TestP1005CompactOfWhatOthersCommit(t *testing.T) {
	x := fresh(t)
	apply(t, x, "a=1")
	ok(t, "Commit", x.Commit(api.Edit{Add: []api.Table{{File: 70, First: "a", Last: "z", Size: 9}}, Next: 71}))
	if did, err := x.Compact(); did || err != api.ErrForm {
		t.Errorf("P1: Compact: %v, %v; want form", did, err)
	}
	flush(t, x)
	sees(t, "P1", x, "a 1 1")
	refused(t, "a disk without a table's file", x.Disk, calm(), api.ErrForm)
}

// TestP1005TheManifestIsShort, however many commits there were; it is a new one only now and then.
func TestP1005TheManifestIsShort(t *testing.T) {
	x := open(t, made(t, 20000), calm())
	for n := range 3000 {
		apply(t, x, fmt.Sprintf("k%d=%d", n%7, n))
		flush(t, x)
		if n%3 == 2 {
			for checkCompact(t, x, calm().Shape, x.Seq()) {
			}
		}
		if n == 50 && x.Number() != 0 {
			t.Errorf("P1005: behind %d commits the manifest is number %d", n, x.Number())
		}
		if n%500 == 499 {
			x = open(t, x.Disk, calm())
		}
	}
	if n := len(bytesOf(t, x.Disk, fmt.Sprintf("manifest-%06d", x.Number()))); n > 5000 || x.Number() < 10 || x.Number() > 300 {
		t.Errorf("P1005: the manifest is number %d, of %d bytes", x.Number(), n)
	}
	sees(t, "P1006", open(t, x.Disk, calm()), "k0 2997 2996, k1 2998 2997, k2 2999 2998, k3 3000 2999, k4 2994 2993, k5 2995 2994, k6 2996 2995")
}
