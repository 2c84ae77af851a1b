package manifest_test

import (
	"fmt"
	"slices"
	"strconv"
	"testing"

	"glacier/api"
	"glacier/disk"
)

// crashes crashes twins of a disk on which bytes of no more than one file are not synced, with every pick that
// counts, and hands them on with how many of these bytes are kept.
func crashes(t *testing.T, d *disk.Disk, then func(d *disk.Disk, kept int)) {
	t.Helper()
	names := d.List()
	at := slices.IndexFunc(names, func(name string) bool { return d.Unsynced(name) > 0 })
	if at < 0 {
		x := d.Twin()
		x.Crash()
		then(x, 0)
		return
	}
	for kept := range d.Unsynced(names[at]) + 1 {
		picks := make([]int, len(names))
		picks[at] = kept
		x := d.Twin()
		x.Crash(picks...)
		then(x, kept)
	}
}

// goesOn asks that a disk's version is that one, again and again, and that it goes on from there: what is
// committed outlasts crashes.
func goesOn(t *testing.T, what string, d *disk.Disk, v api.Version) {
	t.Helper()
	for range 2 {
		s := open(t, d)
		if !same(s.Version(), v) {
			t.Fatalf("P805: %s: the version is %v; want %v", what, s.Version(), v)
		}
		if want := "current manifest-" + fmt.Sprintf("%06d", s.Number()); len(d.List("manifest-")) != 1 || files(d) != want && files(d) != "current current.tmp"+want[len("current"):] {
			t.Fatalf("P803: %s: behind Open there are %s; want %s", what, files(d), want)
		}
		d.Crash()
	}
	more := api.Edit{Add: []api.Table{tab(1<<39, 0, "more", "more")}}
	ok(t, "P804: Commit", open(t, d).Commit(more))
	d.Crash()
	s := open(t, d)
	v, _ = apply(v, more)
	tell(t, "P805: "+what, s, v, s.Number())
	ok(t, "P804: Rotate", s.Rotate())
	d.Crash()
	s = open(t, d)
	tell(t, "P805: "+what, s, v, s.Number())
}

// TestP805BehindEveryCall: what was told OK outlasts any crash.
func TestP805BehindEveryCall(t *testing.T) {
	d := made(t, 9999)
	s := open(t, d)
	v := api.Version{}
	check := func(what string) {
		t.Helper()
		crashes(t, d, func(x *disk.Disk, _ int) { goesOn(t, what, x, v) })
	}
	check("Open")
	for n, e := range some() {
		ok(t, "P804: Commit", s.Commit(e))
		v = version(t, some()[:n+1]...)
		check("Commit")
		if n != 1 {
			ok(t, "P804: Rotate", s.Rotate())
			check("Rotate")
		}
		s = open(t, d)
		check("Open")
		if err := s.Commit(drop(77)); err != api.ErrNone {
			t.Errorf("P804: Commit: %v; want none", err)
		}
		check("a Commit that was refused")
	}
}

// TestP805WithinCommit crashes when a frame, or a front of it, was appended and not synced.
func TestP805WithinCommit(t *testing.T) {
	for n, e := range some() {
		d := laid(t, 9999, 2, frames(some()[:n]...))
		whole := frames(e)
		for size := range len(whole) + 1 {
			x := d.Twin()
			lay(t, x, "manifest-000002", whole[:size])
			crashes(t, x, func(x *disk.Disk, kept int) {
				v := version(t, some()[:n]...)
				if kept == len(whole) {
					v = version(t, some()[:n+1]...)
				}
				goesOn(t, fmt.Sprintf("%d of %d bytes", kept, len(whole)), x, v)
			})
		}
	}
}

// within lays what a Rotate has done, step by step, and crashes behind each of them.
func within(t *testing.T, d *disk.Disk, from int, b string, v api.Version) {
	t.Helper()
	next, said := fmt.Sprintf("manifest-%06d", from+1), strconv.Itoa(from+1)
	steps := []func(){
		func() {},
		func() { lay(t, d, next, "") },
		func() { lay(t, d, next, b) },
		func() { ok(t, "Sync", d.Sync(next)) },
		func() { lay(t, d, "current.tmp", "") },
		func() { lay(t, d, "current.tmp", said) },
		func() { ok(t, "Sync", d.Sync("current.tmp")) },
		func() { ok(t, "Rename", d.Rename("current.tmp", "current")) },
		func() { ok(t, "Delete", d.Delete(fmt.Sprintf("manifest-%06d", from))) },
	}
	for i, step := range steps {
		step()
		crashes(t, d, func(x *disk.Disk, kept int) {
			goesOn(t, fmt.Sprintf("Rotate from %d, step %d, %d bytes kept", from, i, kept), x, v)
		})
	}
}

func TestP805WithinRotate(t *testing.T) {
	for n := range len(some()) + 1 {
		v := version(t, some()[:n]...)
		for _, from := range []int{0, 9, 99999, 999999} {
			within(t, laid(t, 9999, from, frames(some()[:n]...)), from, frames(whole(v)), v)
		}
	}
}

// TestP805WithinOpen: Open of a manifest that is torn does a Rotate, which may crash, too.
func TestP805WithinOpen(t *testing.T) {
	for n := range len(some()) + 1 {
		v := version(t, some()[:n]...)
		within(t, laid(t, 9999, 3, frames(some()[:n]...)+"torn"), 3, frames(whole(v)), v)
	}
}

// TestP805WithinOpenOfADiskWithoutFiles: nothing was committed, so there is the zero version, and nothing else.
func TestP805WithinOpenOfADiskWithoutFiles(t *testing.T) {
	d := made(t, 999)
	for i, step := range []func(){
		func() {},
		func() { lay(t, d, "manifest-000000", "") },
		func() { lay(t, d, "current.tmp", "") },
		func() { lay(t, d, "current.tmp", "0") },
		func() { ok(t, "Sync", d.Sync("current.tmp")) },
		func() { ok(t, "Rename", d.Rename("current.tmp", "current")) },
	} {
		step()
		crashes(t, d, func(x *disk.Disk, _ int) { goesOn(t, fmt.Sprint("Open anew, step ", i), x, api.Version{}) })
	}
}

// TestP805CrashBehindCrash tears a Commit behind each Open, many times.
func TestP805CrashBehindCrash(t *testing.T) {
	d := made(t, 9999)
	var v api.Version
	for i := range 200 {
		s := open(t, d)
		tell(t, "P805", s, v, s.Number())
		e := add(tab(2*i, 0, "a", "b"))
		if i >= 20 {
			e.Drop = []int{2 * (i - 20)}
		}
		ok(t, "P804: Commit", s.Commit(e))
		v = version(t, whole(v), e)
		torn := frames(api.Edit{Add: []api.Table{tab(2*i+1, 0, "a", "b")}})
		lay(t, d, fmt.Sprintf("manifest-%06d", s.Number()), torn[:i%(len(torn)-1)+1])
		d.Crash(0, i%5, 0)
	}
	s := open(t, d)
	tell(t, "P805", s, v, s.Number())
	if s.Number() < 100 {
		t.Errorf("P803: %d manifests; want more", s.Number())
	}
}
