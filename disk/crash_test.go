package disk_test

import (
	"slices"
	"testing"

	"glacier/api"
	"glacier/disk"
)

// torn tells a disk whose file a has two synced bytes and three that are not, b two that are not, c a
// synced one alone, d no bytes, and e one that is not synced.
func torn(t *testing.T) *disk.Disk {
	t.Helper()
	d := made(t, 20)
	put(t, d, "e", "e")
	put(t, d, "c", "c")
	put(t, d, "a", "12")
	ok(t, "P202: Sync", d.Sync("a", "c"))
	put(t, d, "a", "345")
	put(t, d, "d")
	put(t, d, "b", "xy")
	is(t, "P202", d, "9+11, 0; a 12|345; b |xy; c c|; d |; e |e")
	return d
}

func TestP205TheExample(t *testing.T) {
	d := made(t, 9)
	put(t, d, "a", "xy")
	ok(t, "P202: Sync", d.Sync("a"))
	put(t, d, "a", "zw")
	put(t, d, "b", "q")
	d.Crash(1)
	is(t, "P205", d, "3+6, 0; a xyz|; b |")
}

func TestP205Crash(t *testing.T) {
	for _, c := range []struct {
		picks []int
		want  string
	}{
		{nil, "3+17, 0; a 12|; b |; c c|; d |; e |"},
		{[]int{0, 0, 0, 0, 0}, "3+17, 0; a 12|; b |; c c|; d |; e |"},
		{[]int{1}, "4+16, 0; a 123|; b |; c c|; d |; e |"},
		{[]int{2}, "5+15, 0; a 1234|; b |; c c|; d |; e |"},
		{[]int{3}, "6+14, 0; a 12345|; b |; c c|; d |; e |"},
		{[]int{4}, "3+17, 0; a 12|; b |; c c|; d |; e |"},
		{[]int{5}, "4+16, 0; a 123|; b |; c c|; d |; e |"},
		{[]int{7}, "6+14, 0; a 12345|; b |; c c|; d |; e |"},
		{[]int{0, 1}, "4+16, 0; a 12|; b x|; c c|; d |; e |"},
		{[]int{0, 2}, "5+15, 0; a 12|; b xy|; c c|; d |; e |"},
		{[]int{0, 3}, "3+17, 0; a 12|; b |; c c|; d |; e |"},
		{[]int{3, 5}, "8+12, 0; a 12345|; b xy|; c c|; d |; e |"},
		{[]int{3, 2, 1}, "8+12, 0; a 12345|; b xy|; c c|; d |; e |"},
		{[]int{3, 2, 1, 1}, "8+12, 0; a 12345|; b xy|; c c|; d |; e |"},
		{[]int{3, 2, 1, 1, 1}, "9+11, 0; a 12345|; b xy|; c c|; d |; e e|"},
		{[]int{0, 0, 0, 0, 1}, "4+16, 0; a 12|; b |; c c|; d |; e e|"},
		{[]int{0, 0, 0, 0, 2}, "3+17, 0; a 12|; b |; c c|; d |; e |"},
		{[]int{0, 0, 9, 9, 0, 1, 1, 1}, "3+17, 0; a 12|; b |; c c|; d |; e |"},
		{[]int{-1, -1, -1, -1, -1}, "3+17, 0; a 12|; b |; c c|; d |; e |"},
		{[]int{-1, 2, -1, -1, 1}, "6+14, 0; a 12|; b xy|; c c|; d |; e e|"},
		{[]int{-5, -2, 0, 0, -3}, "3+17, 0; a 12|; b |; c c|; d |; e |"},
	} {
		d := torn(t)
		d.Crash(c.picks...)
		is(t, "P205", d, c.want)
	}
}

func TestP205PicksAtTheEndsOfInt(t *testing.T) {
	for _, pick := range far() {
		d := torn(t)
		d.Crash(pick, pick, pick, pick, pick)
		a, _ := d.Read("a")
		b, _ := d.Read("b")
		e, _ := d.Read("e")
		pick = max(pick, 0)
		if len(a) != 2+pick%4 || len(b) != pick%3 || len(e) != pick%2 {
			t.Errorf("P205: pick %d: %q, %q, %q", pick, a, b, e)
		}
	}
}

func TestP205ACrashOfNoFiles(t *testing.T) {
	d := made(t, 3)
	d.Crash()
	d.Crash(1, 2, 3)
	is(t, "P205", d, "0+3, 0")
}

func TestP205WhatIsLeftIsSynced(t *testing.T) {
	d := torn(t)
	d.Crash(2, 1)
	for range 3 {
		d.Crash()
		d.Crash(-1, 0, 1, 2, 3)
		is(t, "P205", d, "6+14, 0; a 1234|; b x|; c c|; d |; e |")
	}
}

func TestP205AfterACrashFilesGoOn(t *testing.T) {
	d := torn(t)
	d.Crash(1)
	put(t, d, "a", "?")
	put(t, d, "b", "!")
	is(t, "P205", d, "6+14, 0; a 123|?; b |!; c c|; d |; e |")
	put(t, d, "d", string(make([]byte, 14)))
	if err := d.Append("d", []byte{1}); err != api.ErrFull {
		t.Errorf("P205: a byte more than the disk has room for: %v; want full", err)
	}
}

func TestP205Lose(t *testing.T) {
	d := torn(t)
	d.Lose()
	is(t, "P205", d, "0+20, 1")
	if b, err := d.Read("c"); len(b) != 0 || err != api.ErrNone || d.Unsynced("a") != 0 {
		t.Errorf("P205: what is lost is read: %q, %v", b, err)
	}
	d.Lose()
	is(t, "P205", d, "0+20, 2")
	put(t, d, "c", "new")
	d.Crash(3)
	is(t, "P205", d, "3+17, 2; c new|")
	d.Crash()
	if d.Born() != 2 {
		t.Errorf("P205: Born counts crashes: %d", d.Born())
	}
}

func TestP205TwinIsAsThisOne(t *testing.T) {
	d := torn(t)
	is(t, "P205", d.Twin(), show(t, d))
	d.Lose()
	d.Lose()
	is(t, "P205", d.Twin(), "0+20, 2")
	is(t, "P205", made(t, 7).Twin(), "0+7, 0")
	put(t, d, "a", "xy")
	x := d.Twin().Twin()
	x.Crash(1)
	is(t, "P205", x, "1+19, 2; a x|")
}

func TestP205TwinIsApart(t *testing.T) {
	was := show(t, torn(t))
	for i, change := range []func(d *disk.Disk){
		func(d *disk.Disk) { put(t, d, "a", "more") },
		func(d *disk.Disk) { put(t, d, "d", "more") },
		func(d *disk.Disk) { put(t, d, "new", "more") },
		func(d *disk.Disk) { d.Sync("a", "b", "e") },
		func(d *disk.Disk) { d.Rename("a", "b") },
		func(d *disk.Disk) { d.Rename("c", "f") },
		func(d *disk.Disk) { d.Delete("a", "c") },
		func(d *disk.Disk) { d.Crash(1, 1) },
		func(d *disk.Disk) { d.Crash(); put(t, d, "a", "?????") },
		func(d *disk.Disk) { d.Lose() },
		func(d *disk.Disk) { d.Lose(); put(t, d, "a", "?????") },
	} {
		d := torn(t)
		x := d.Twin()
		change(x)
		is(t, "P205: a twin was changed", d, was)
		if show(t, x) == was {
			t.Errorf("P205: change %d does nothing to a twin", i)
		}
		d = torn(t)
		x = d.Twin()
		change(d)
		is(t, "P205: what it is twin of was changed", x, was)
	}
}

func TestP205TwinsAppendApart(t *testing.T) {
	d := made(t, 99)
	for range 5 {
		put(t, d, "a", "x")
	}
	x := d.Twin()
	put(t, d, "a", "1")
	put(t, x, "a", "2")
	is(t, "P205", d, "6+93, 0; a |xxxxx1")
	is(t, "P205", x, "6+93, 0; a |xxxxx2")
}

func TestP206AFrontIsLeft(t *testing.T) {
	for pick := -2; pick < 30; pick++ {
		d := torn(t)
		x := d.Twin()
		x.Crash(pick, 2*pick, pick, 3*pick, pick/2)
		if !slices.Equal(x.List(), d.List()) || x.Used() > d.Used() {
			t.Errorf("P206: %v with %d bytes becomes %v with %d", d.List(), d.Used(), x.List(), x.Used())
		}
		for _, name := range d.List() {
			was, _ := d.Read(name)
			b, _ := x.Read(name)
			if len(b) < len(was)-d.Unsynced(name) || len(b) > len(was) || string(was[:len(b)]) != string(b) {
				t.Errorf("P206: %s: %q becomes %q", name, was, b)
			}
		}
	}
}

func TestP206WhatIsSyncedIsRead(t *testing.T) {
	d := made(t, 99)
	want := ""
	for i := range 20 {
		put(t, d, "a", string(rune('a'+i)), "!")
		want += string(rune('a'+i)) + "!"
		ok(t, "P202: Sync", d.Sync("a"))
		put(t, d, "a", "??")
		d.Crash(3*i, i)
		d.Crash(-i)
		if b, err := d.Read("a"); err != api.OK || string(b) != want {
			t.Fatalf("P206: %q, %v; want %q", b, err, want)
		}
	}
}

func TestP207WhatIsRefusedChangesNothing(t *testing.T) {
	d := torn(t)
	was := show(t, d)
	for i, c := range []struct {
		err, want api.Errno
	}{
		{d.Append("", []byte("x")), api.ErrArg},
		{d.Append("new", make([]byte, 12)), api.ErrFull},
		{d.Append("a", make([]byte, 11), []byte{1}), api.ErrFull},
		{d.Append("A", make([]byte, 12)), api.ErrArg},
		{d.Sync("a", "b", "none"), api.ErrNone},
		{d.Sync("none", "a", "b"), api.ErrNone},
		{d.Rename("none", "a"), api.ErrNone},
		{d.Rename("a", "b_"), api.ErrArg},
		{d.Rename("none", "b_"), api.ErrNone},
		{d.Delete("a", "b", "none"), api.ErrNone},
		{d.Delete("none", "a", "a"), api.ErrNone},
		{d.Delete(""), api.ErrNone},
	} {
		if c.err != c.want {
			t.Errorf("P207: call %d: %v; want %v", i, c.err, c.want)
		}
	}
	is(t, "P207", d, was)
}
