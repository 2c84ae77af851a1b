package disk_test

import (
	"bytes"
	"math"
	"slices"
	"testing"

	"glacier/api"
	"glacier/disk"
)

func TestP201New(t *testing.T) {
	for _, size := range []int{1, 2, 3, 1 << 16, api.MaxDisk - 1, api.MaxDisk} {
		d := made(t, size)
		if d.Used() != 0 || d.Born() != 0 || len(d.List()) != 0 {
			t.Errorf("P201: New(%d) has %d bytes, %v, was lost %d times", size, d.Used(), d.List(), d.Born())
		}
	}
	for _, size := range []int{0, -1, -api.MaxDisk, api.MaxDisk + 1, 1 << 40, math.MinInt, math.MaxInt} {
		if d, err := disk.New(size); d != nil || err != api.ErrArg {
			t.Errorf("P201: New(%d) = %v, %v; want none and arg", size, d, err)
		}
	}
}

func TestP201ADiskHoldsItsSize(t *testing.T) {
	for _, size := range []int{1, 2, 3, 64, 999} {
		d := made(t, size)
		put(t, d, "a", string(make([]byte, size-size/2)))
		put(t, d, "b", string(make([]byte, size/2)))
		if d.Used() != size {
			t.Errorf("P201: of %d bytes, %d are used", size, d.Used())
		}
		for _, name := range []string{"a", "b", "c"} {
			if err := d.Append(name, []byte{1}); err != api.ErrFull {
				t.Errorf("P202: one byte more than %d: %v; want full", size, err)
			}
			if err := made(t, size).Append(name, make([]byte, size+1)); err != api.ErrFull {
				t.Errorf("P202: %d bytes at once, of %d: %v; want full", size+1, size, err)
			}
		}
	}
}

// TestP201TheGreatestDisk hands in the same part over and over, so that MaxDisk bytes and more take little room until they are written.
func TestP201TheGreatestDisk(t *testing.T) {
	const part = 1 << 24
	d := made(t, api.MaxDisk)
	parts := slices.Repeat([][]byte{make([]byte, part)}, api.MaxDisk/part)
	if err := d.Append("a", append(parts, []byte{1})...); err != api.ErrFull || len(d.List()) != 0 || d.Used() != 0 {
		t.Errorf("P202: a byte more than MaxDisk: %v, %v, %d; want full", err, d.List(), d.Used())
	}
	ok(t, "P202: a part", d.Append("a", parts[0]))
	for _, name := range []string{"a", "b"} {
		if err := d.Append(name, parts...); err != api.ErrFull || d.Used() != part {
			t.Errorf("P202: a part more than MaxDisk: %v, %d; want full", err, d.Used())
		}
	}
	if b, err := d.Read("a"); err != api.OK || !bytes.Equal(b, parts[0]) {
		t.Errorf("P202: of %d bytes %d are read: %v", part, len(b), err)
	}
}

func TestP202Append(t *testing.T) {
	d := made(t, 9)
	put(t, d, "b", "xy", "", "z")
	is(t, "P202", d, "3+6, 0; b |xyz")
	put(t, d, "b", "12")
	put(t, d, "a", "q")
	is(t, "P202", d, "6+3, 0; a |q; b |xyz12")
}

func TestP202AppendOfNoParts(t *testing.T) {
	d := made(t, 2)
	ok(t, "P202: no parts", d.Append("none"))
	ok(t, "P202: parts without bytes", d.Append("empty", nil, []byte{}))
	put(t, d, "full", "ab")
	ok(t, "P202: no parts", d.Append("full"))
	ok(t, "P202: on a full disk", d.Append("more", nil))
	is(t, "P202", d, "2+0, 0; empty |; full |ab; more |; none |")
}

func TestP202AppendBehindSyncedBytes(t *testing.T) {
	d := made(t, 9)
	put(t, d, "a", "xy")
	ok(t, "P202: Sync", d.Sync("a"))
	put(t, d, "a", "z")
	ok(t, "P202: no parts", d.Append("a"))
	is(t, "P202", d, "3+6, 0; a xy|z")
}

func TestP202AppendOfWhatIsNoName(t *testing.T) {
	d := made(t, 3)
	put(t, d, "a", "xy")
	for _, name := range wrongNames() {
		for _, parts := range [][][]byte{nil, {{1}}, {{1, 2, 3, 4}}} {
			if err := d.Append(name, parts...); err != api.ErrArg {
				t.Errorf("P202: Append(%q, %d parts): %v; want arg", name, len(parts), err)
			}
		}
	}
	is(t, "P207", d, "2+1, 0; a |xy")
}

func TestP202AppendOfTooMuch(t *testing.T) {
	d := made(t, 3)
	put(t, d, "a", "x")
	ok(t, "P202: Sync", d.Sync("a"))
	put(t, d, "a", "y")
	for _, parts := range [][][]byte{{{1, 2}}, {{1}, {2}}, {{1}, nil, {2}, nil}, {{1, 2, 3, 4}}, {{1}, {2}, {3}, {4}}} {
		for _, name := range []string{"a", "b"} {
			if err := d.Append(name, parts...); err != api.ErrFull {
				t.Errorf("P202: Append(%s, %v): %v; want full", name, parts, err)
			}
			is(t, "P207", d, "2+1, 0; a x|y")
		}
	}
	put(t, d, "a", "", "z")
	is(t, "P202", d, "3+0, 0; a x|yz")
}

func TestP202Sync(t *testing.T) {
	d := made(t, 9)
	for _, name := range []string{"a", "b", "c"} {
		put(t, d, name, "xy")
	}
	ok(t, "P202: of no names", d.Sync())
	is(t, "P202", d, "6+3, 0; a |xy; b |xy; c |xy")
	ok(t, "P202: one name twice", d.Sync("c", "a", "c"))
	is(t, "P202", d, "6+3, 0; a xy|; b |xy; c xy|")
	put(t, d, "a", "z")
	ok(t, "P202: once more", d.Sync("a"))
	ok(t, "P202: without need", d.Sync("a"))
	is(t, "P202", d, "7+2, 0; a xyz|; b |xy; c xy|")
}

func TestP202SyncOfWhatIsNotThere(t *testing.T) {
	d := made(t, 9)
	put(t, d, "a", "xy")
	put(t, d, "b", "z")
	for _, names := range [][]string{{"c"}, {"a", "c"}, {"c", "a"}, {"a", "c", "b"}, {"a", "b", ""}, {"a", "A"}, wrongNames()} {
		if err := d.Sync(names...); err != api.ErrNone {
			t.Errorf("P202: Sync(%q): %v; want none", names, err)
		}
		is(t, "P207", d, "3+6, 0; a |xy; b |z")
	}
}

func TestP202Read(t *testing.T) {
	d := made(t, 9)
	put(t, d, "a", "xy")
	ok(t, "P202: Sync", d.Sync("a"))
	put(t, d, "a", "z")
	put(t, d, "b")
	for _, c := range []struct {
		name, want string
		err        api.Errno
	}{{"a", "xyz", api.OK}, {"b", "", api.OK}, {"c", "", api.ErrNone}, {"", "", api.ErrNone}, {"A", "", api.ErrNone}, {"a\x00", "", api.ErrNone}} {
		if b, err := d.Read(c.name); string(b) != c.want || err != c.err {
			t.Errorf("P202: Read(%q) = %q, %v; want %q, %v", c.name, b, err, c.want, c.err)
		}
	}
	is(t, "P207", d, "3+6, 0; a xy|z; b |")
}

func TestP202Unsynced(t *testing.T) {
	d := made(t, 9)
	put(t, d, "a", "xy")
	put(t, d, "b")
	put(t, d, "c", "q")
	ok(t, "P202: Sync", d.Sync("a", "c"))
	put(t, d, "a", "123")
	for _, c := range []struct {
		name string
		want int
	}{{"a", 3}, {"b", 0}, {"c", 0}, {"d", 0}, {"", 0}, {"A", 0}} {
		if n := d.Unsynced(c.name); n != c.want {
			t.Errorf("P202: Unsynced(%q) = %d; want %d", c.name, n, c.want)
		}
	}
}

func TestP203Rename(t *testing.T) {
	for _, c := range []struct {
		from, to string
		err      api.Errno
		want     string
	}{
		{"a", "c", api.OK, "6+4, 0; b 1|23; c xy|z"},
		{"a", "b", api.OK, "3+7, 0; b xy|z"},
		{"b", "a", api.OK, "3+7, 0; a 1|23"},
		{"a", "a", api.OK, "6+4, 0; a xy|z; b 1|23"},
		{"b", "b", api.OK, "6+4, 0; a xy|z; b 1|23"},
		{"b", "-.0", api.OK, "6+4, 0; -.0 1|23; a xy|z"},
		{"c", "a", api.ErrNone, "6+4, 0; a xy|z; b 1|23"},
		{"c", "c", api.ErrNone, "6+4, 0; a xy|z; b 1|23"},
		{"c", "", api.ErrNone, "6+4, 0; a xy|z; b 1|23"},
		{"", "", api.ErrNone, "6+4, 0; a xy|z; b 1|23"},
		{"A", "a", api.ErrNone, "6+4, 0; a xy|z; b 1|23"},
		{"A", "A", api.ErrNone, "6+4, 0; a xy|z; b 1|23"},
		{"a", "", api.ErrArg, "6+4, 0; a xy|z; b 1|23"},
		{"a", "A", api.ErrArg, "6+4, 0; a xy|z; b 1|23"},
	} {
		d := made(t, 10)
		put(t, d, "a", "xy")
		put(t, d, "b", "1")
		ok(t, "P202: Sync", d.Sync("a", "b"))
		put(t, d, "a", "z")
		put(t, d, "b", "23")
		if err := d.Rename(c.from, c.to); err != c.err {
			t.Errorf("P203: Rename(%q, %q): %v; want %v", c.from, c.to, err, c.err)
		}
		is(t, "P203", d, c.want)
	}
}

func TestP203RenameToWhatIsNoName(t *testing.T) {
	d := made(t, 9)
	put(t, d, "a", "xy")
	for _, name := range wrongNames() {
		if err := d.Rename("a", name); err != api.ErrArg {
			t.Errorf("P203: Rename(a, %q): %v; want arg", name, err)
		}
		if err := d.Rename("b", name); err != api.ErrNone {
			t.Errorf("P203: Rename(b, %q): %v; want none", name, err)
		}
	}
	is(t, "P207", d, "2+7, 0; a |xy")
}

func TestP203WhatWasRenamedGoesOnApart(t *testing.T) {
	d := made(t, 9)
	put(t, d, "a", "xy")
	ok(t, "P203", d.Rename("a", "b"))
	put(t, d, "a", "1")
	put(t, d, "b", "z")
	ok(t, "P202: Sync", d.Sync("b"))
	is(t, "P203", d, "4+5, 0; a |1; b xyz|")
}

func TestP203Delete(t *testing.T) {
	for _, c := range []struct {
		names []string
		err   api.Errno
		want  string
	}{
		{nil, api.OK, "6+3, 0; a x|; b |yz; c |123"},
		{[]string{"a"}, api.OK, "5+4, 0; b |yz; c |123"},
		{[]string{"c", "a"}, api.OK, "2+7, 0; b |yz"},
		{[]string{"b", "b"}, api.OK, "4+5, 0; a x|; c |123"},
		{[]string{"a", "c", "a", "b", "c"}, api.OK, "0+9, 0"},
		{[]string{"d"}, api.ErrNone, "6+3, 0; a x|; b |yz; c |123"},
		{[]string{"a", "d"}, api.ErrNone, "6+3, 0; a x|; b |yz; c |123"},
		{[]string{"d", "a"}, api.ErrNone, "6+3, 0; a x|; b |yz; c |123"},
		{[]string{"a", "b", "d", "c"}, api.ErrNone, "6+3, 0; a x|; b |yz; c |123"},
		{[]string{"a", ""}, api.ErrNone, "6+3, 0; a x|; b |yz; c |123"},
		{[]string{"A"}, api.ErrNone, "6+3, 0; a x|; b |yz; c |123"},
	} {
		d := made(t, 9)
		put(t, d, "a", "x")
		ok(t, "P202: Sync", d.Sync("a"))
		put(t, d, "b", "yz")
		put(t, d, "c", "123")
		if err := d.Delete(c.names...); err != c.err {
			t.Errorf("P203: Delete(%q): %v; want %v", c.names, err, c.err)
		}
		is(t, "P203", d, c.want)
	}
}

func TestP203WhatWasDeletedBeginsAnew(t *testing.T) {
	d := made(t, 3)
	put(t, d, "a", "xyz")
	ok(t, "P202: Sync", d.Sync("a"))
	ok(t, "P203", d.Delete("a"))
	if b, err := d.Read("a"); len(b) != 0 || err != api.ErrNone {
		t.Errorf("P203: Read of what is gone: %q, %v", b, err)
	}
	put(t, d, "a", "12")
	is(t, "P203", d, "2+1, 0; a |12")
}

func TestP203OutlastsACrash(t *testing.T) {
	d := made(t, 9)
	put(t, d, "a", "xy")
	put(t, d, "b", "1")
	put(t, d, "c", "2")
	ok(t, "P202: Sync", d.Sync("a", "b", "c"))
	put(t, d, "a", "z")
	ok(t, "P203", d.Rename("a", "b"))
	ok(t, "P203", d.Delete("c"))
	d.Crash()
	is(t, "P203", d, "2+7, 0; b xy|")
}

func TestP204List(t *testing.T) {
	d := made(t, 9)
	for _, name := range []string{"t-2", "b", "t", "0", "t-10", ".", "s-1", "-", "t-1", "t.1", "a"} {
		put(t, d, name)
	}
	for _, c := range []struct {
		prefixes, want []string
	}{
		{nil, []string{"-", ".", "0", "a", "b", "s-1", "t", "t-1", "t-10", "t-2", "t.1"}},
		{[]string{""}, []string{"-", ".", "0", "a", "b", "s-1", "t", "t-1", "t-10", "t-2", "t.1"}},
		{[]string{"t"}, []string{"t", "t-1", "t-10", "t-2", "t.1"}},
		{[]string{"t-"}, []string{"t-1", "t-10", "t-2"}},
		{[]string{"t-1"}, []string{"t-1", "t-10"}},
		{[]string{"t-10"}, []string{"t-10"}},
		{[]string{"t-100"}, nil},
		{[]string{"-1"}, nil},
		{[]string{"T"}, nil},
		{[]string{"\x00"}, nil},
		{[]string{"t-2", "s"}, []string{"s-1", "t-2"}},
		{[]string{"t-1", "t-", "t-1"}, []string{"t-1", "t-10", "t-2"}},
		{[]string{"x", "b", "y"}, []string{"b"}},
		{[]string{"x", "y"}, nil},
		{[]string{"b", ""}, []string{"-", ".", "0", "a", "b", "s-1", "t", "t-1", "t-10", "t-2", "t.1"}},
	} {
		if l := d.List(c.prefixes...); !slices.Equal(l, c.want) {
			t.Errorf("P204: List(%q) = %q; want %q", c.prefixes, l, c.want)
		}
	}
}

func TestP204Used(t *testing.T) {
	d := made(t, 20)
	for i, c := range []struct {
		do   func() api.Errno
		want int
	}{
		{func() api.Errno { return d.Append("a") }, 0},
		{func() api.Errno { return d.Append("a", []byte("xyz"), []byte("1")) }, 4},
		{func() api.Errno { return d.Append("b", []byte("12345")) }, 9},
		{func() api.Errno { return d.Append("c", make([]byte, 11)) }, 20},
		{func() api.Errno { return d.Sync("a", "b") }, 20},
		{func() api.Errno { return d.Rename("a", "a") }, 20},
		{func() api.Errno { return d.Rename("a", "d") }, 20},
		{func() api.Errno { return d.Rename("d", "b") }, 15},
		{func() api.Errno { d.Crash(3); d.Crash(3); return d.Append("b", []byte("2")) }, 5},
		{func() api.Errno { return d.Delete("b", "b") }, 0},
		{func() api.Errno { return d.Append("d", make([]byte, 20)) }, 20},
		{func() api.Errno { d.Lose(); return api.OK }, 0},
	} {
		ok(t, "P204: a step", c.do())
		if d.Used() != c.want {
			t.Errorf("P204: behind step %d, Used is %d; want %d", i, d.Used(), c.want)
		}
	}
}

func TestP2WhatIsHandedInIsNotKept(t *testing.T) {
	d := made(t, 99)
	room := []byte("xyzROOM")
	parts := [][]byte{room[:2], room[2:3], nil}
	ok(t, "P202", d.Append("a", parts...))
	if string(room) != "xyzROOM" || len(parts[0]) != 2 || len(parts[1]) != 1 || parts[2] != nil {
		t.Errorf("P2: Append has changed %q, %q", room, parts)
	}
	copy(room, "???????")
	ok(t, "P202", d.Append("a", []byte("1")))
	is(t, "P2", d, "4+95, 0; a |xyz1")
	if string(room) != "???????" {
		t.Errorf("P2: Append has changed %q", room)
	}
	names, prefixes, picks := []string{"a", "a"}, []string{"z", "a"}, []int{7, -1}
	ok(t, "P202", d.Sync(names...))
	d.List(prefixes...)
	d.Crash(picks...)
	ok(t, "P203", d.Delete(names...))
	if !slices.Equal(names, []string{"a", "a"}) || !slices.Equal(prefixes, []string{"z", "a"}) || !slices.Equal(picks, []int{7, -1}) {
		t.Errorf("P2: %q, %q, %v have changed", names, prefixes, picks)
	}
}

func TestP2AnswersAreNewMemory(t *testing.T) {
	d := made(t, 99)
	put(t, d, "a", "xyz")
	put(t, d, "b")
	b, _ := d.Read("a")
	c, _ := d.Read("a")
	b = b[:cap(b)]
	for i := range b {
		b[i] = '?'
	}
	if string(c) != "xyz" {
		t.Errorf("P2: two answers share memory: %q", c)
	}
	put(t, d, "a", "12")
	if !bytes.Equal(b, bytes.Repeat([]byte("?"), len(b))) {
		t.Errorf("P2: an answer has changed: %q", b)
	}
	l := d.List()
	l[0] = "?"
	is(t, "P2", d, "5+94, 0; a |xyz12; b |")
}
