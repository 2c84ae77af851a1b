package lsm_test

import (
	"fmt"
	"strings"
	"testing"

	"glacier/api"
	"glacier/disk"
	"glacier/lsm"
)

func TestP1002Apply(t *testing.T) {
	x := fresh(t)
	for n, c := range []struct{ batch, want string }{
		{"a=1", "a 1 1"},
		{"a=2", "a 2 2"},
		{"b=3 c=4 d=5", "a 2 2, b 3 3, c 3 4, d 3 5"},
		{"c a", "b 3 3, d 3 5"},
		{"c", "b 3 3, d 3 5"},
		{"none", "b 3 3, d 3 5"},
		{"c= b", "c 7 , d 3 5"},
	} {
		apply(t, x, c.batch)
		sees(t, "P1002", x, c.want)
		if x.Seq() != uint64(n+1) || frames(t, x.Disk, theLog(0)) != n+1 || x.Unsynced(theLog(0)) != 0 {
			t.Errorf("P1002: Apply %d: Seq %d, %d frames, %d bytes not synced", n+1, x.Seq(), frames(t, x.Disk, theLog(0)), x.Unsynced(theLog(0)))
		}
		sees(t, "P1001", open(t, x.Twin(), calm()), c.want)
	}
}

func TestP1002OfNoWrites(t *testing.T) {
	x := fresh(t)
	for n := range uint64(3) {
		was := show(t, x.Disk)
		for _, writes := range [][]api.Write{nil, {}} {
			if seq, err := x.Apply(writes...); seq != n || err != api.OK {
				t.Errorf("P1002: Apply of nothing: %d, %v; want %d", seq, err, n)
			}
		}
		is(t, "P1002: Apply of nothing", x.Disk, was)
		apply(t, x, "a=1")
	}
}

func TestP1002TheLastWriteOfAKeyCounts(t *testing.T) {
	for text, want := range map[string]string{
		"a=1 a=2":           "a 1 2",
		"a=1 a=2 a=1":       "a 1 1",
		"a a=2":             "a 1 2",
		"a=1 a":             "",
		"a=1 b=2 a b=3 a=4": "a 1 4, b 1 3",
		"a=1 b=2 b a=3 b":   "a 1 3",
		"a= a=1 a=":         "a 1 ",
	} {
		x := fresh(t)
		apply(t, x, text)
		sees(t, "P1002: "+text, x, want)
		sees(t, "P1002: in the log: "+text, open(t, x.Twin(), calm()), want)
		flush(t, x)
		sees(t, "P1002: in a table: "+text, x, want)
		if n := len(inside(t, x.Disk, x.Version().Tables[0])); n > 2 {
			t.Errorf("P1002: %s makes %d versions", text, n)
		}
	}
	// Those that do not count take no room, so that a frame has room for any.
	x, y := fresh(t), fresh(t)
	apply(t, x, strings.Repeat("a=1 ", 999)+"a=2")
	apply(t, y, "a=2")
	if x.Used() != y.Used() {
		t.Errorf("P1002: a thousand writes take %d bytes, the last one of them %d", x.Used(), y.Used())
	}
}

// TestP1002AValueOfWhatIsGone is passed over.
func TestP1002AValueOfWhatIsGone(t *testing.T) {
	x := fresh(t)
	apply(t, x, "a=1 b=2")
	seq, err := x.Apply(api.Write{Key: "a", Gone: true, Value: []byte("value")})
	if seq != 2 || err != api.OK {
		t.Fatalf("P1002: %d, %v", seq, err)
	}
	y := fresh(t)
	apply(t, y, "a=1 b=2", "a")
	if show(t, x.Disk) != show(t, y.Disk) {
		t.Errorf("P1002: the disk is %s; want %s", show(t, x.Disk), show(t, y.Disk))
	}
	sees(t, "P1002", x, "b 1 2")
	flush(t, x)
	sees(t, "P1002", x, "b 1 2")
}

func TestP1002KeysAndValuesOfAnyBytes(t *testing.T) {
	x := open(t, made(t, 1<<25), calm())
	texts := []string{"", "\x00", "\x00\x00", "\xFF", "\xFF\xFF", "a", "a\x00", "\xC3\x28", "ä", strings.Repeat("k", 127), strings.Repeat("k", 128), strings.Repeat("k", 65535)}
	var writes []api.Write
	for _, key := range texts {
		for _, value := range texts {
			writes = append(writes, write(key, value+key))
		}
	}
	if _, err := x.Apply(writes...); err != api.OK {
		t.Fatalf("P1002: %v", err)
	}
	for _, step := range []func(){
		func() {},
		func() { x = open(t, x.Disk, calm()) },
		func() { flush(t, x) },
		func() { compacted(t, x) },
		func() { x = open(t, x.Disk, calm()) },
	} {
		step()
		for _, key := range texts {
			want := texts[len(texts)-1] + key
			if b, is := x.Get(key); string(b) != want || !is {
				t.Errorf("P1003: Get(%.9q): %d bytes, %v; want %d", key, len(b), is, len(want))
			}
		}
	}
}

func TestP1002WhatIsTooLong(t *testing.T) {
	const most = api.MaxValue / 4
	value := make([]byte, most+1)
	key := strings.Repeat("k", 65536)
	d := made(t, 1<<27)
	x := open(t, d, calm())
	apply(t, x, "a=1")
	was := d.Used()
	for what, writes := range map[string][]api.Write{
		"a Key of 65536 bytes":             {{Key: key}},
		"a Key of 65536 bytes, Gone":       {{Key: key, Gone: true}},
		"a Key of 65536 bytes at the end":  {write("a", "x"), {Key: key}},
		"a Value of one byte more":         {{Value: value}},
		"a Value of one byte more, behind": {write("a", "x"), {Key: "b", Value: value}, gone("a")},
		"a Value with a Key":               {{Key: "k", Value: value[:most]}},
		"two Values":                       {{Key: "", Value: value[:most/2]}, {Key: "b", Value: value[:most/2]}},
		"Values of one Key":                {{Value: value[:most/2+1]}, {Value: value[:most/2]}},
		"Keys":                             keysOf(257, 65535),
		"a great Value of what is Gone":    {{Gone: true, Value: value}},
		"Values that are shared":           {{Value: value[:most]}, {Value: value[:most]}, {Value: value[:most]}},
	} {
		if seq, err := x.Apply(writes...); seq != 0 || err != api.ErrLong {
			t.Errorf("P1002: %s: %d, %v; want long", what, seq, err)
		}
		if x.Seq() != 1 || d.Used() != was {
			t.Errorf("P5: %s: Seq %d, %d bytes used; want 1, %d", what, x.Seq(), d.Used(), was)
		}
	}
	sees(t, "P5", x, "a 1 1")
	for n, writes := range [][]api.Write{
		{{Key: key[1:], Value: []byte("x")}},
		{{Value: value[:most]}},
		{{Key: "k", Value: value[:most-1]}},
		{{Key: "", Value: value[:most/2]}, {Key: "b", Value: value[:most/2-1]}},
		keysOf(256, 65535),
	} {
		if seq, err := x.Apply(writes...); seq != uint64(n+2) || err != api.OK {
			t.Errorf("P1002: at the bound, %d: %d, %v", n, seq, err)
		}
	}
	if b, is := x.Get("k"); !is || len(b) != most-1 {
		t.Errorf("P1003: %d bytes, %v", len(b), is)
	}
}

// keysOf are writes of so many Keys of that many bytes.
func keysOf(n, size int) []api.Write {
	var l []api.Write
	for i := range n {
		l = append(l, write(fmt.Sprintf("%0*d", size, i), ""))
	}
	return l
}

func TestP1002ErrLongIsAheadOfErrFull(t *testing.T) {
	d := made(t, 9)
	x := open(t, d, calm())
	if seq, err := x.Apply(write("a", strings.Repeat("x", 99)), write(strings.Repeat("k", 65536), "")); seq != 0 || err != api.ErrLong {
		t.Errorf("P6: %d, %v; want long", seq, err)
	}
}

// TestP1002OnAFullDisk applies where there is more and more room, up to what a batch takes.
func TestP1002OnAFullDisk(t *testing.T) {
	const size = 300
	start := made(t, size)
	x := open(t, start, calm())
	apply(t, x, "a=1 b=2")
	was := start.Used()
	twin := start.Twin()
	apply(t, open(t, twin, calm()), "a=3 c=4 b")
	need := twin.Used() - was
	for free := range need + 3 {
		d := start.Twin()
		fill(t, d, size, free)
		x := open(t, d, calm())
		before := show(t, d)
		seq, err := x.Apply(batch("a=3 c=4 b")...)
		if free >= need {
			if seq != 2 || err != api.OK {
				t.Errorf("P1002: with room for %d bytes: %d, %v; want ok", free, seq, err)
			}
			sees(t, "P1002", x, "a 2 3, c 2 4")
			continue
		}
		if seq != 0 || err != api.ErrFull || x.Seq() != 1 {
			t.Errorf("P1002: with room for %d of %d bytes: %d, %v, Seq %d; want full", free, need, seq, err, x.Seq())
		}
		is(t, "P5", d, before)
		sees(t, "P5", x, "a 1 1, b 1 2")
		d.Crash(9, 9, 9, 9)
		sees(t, "P1007", open(t, d, calm()), "a 1 1, b 1 2")
		ok(t, "Delete", d.Delete("zz-fill"))
		apply(t, x, "a=3 c=4 b")
		sees(t, "P1002", x, "a 2 3, c 2 4")
	}
}

// TestP1002FlushIsTried when the table in memory is greater than Mem, not ahead of that.
func TestP1002FlushIsTried(t *testing.T) {
	for _, c := range []struct {
		texts []string
		size  int
	}{
		{[]string{"a=1"}, 18},
		{[]string{"a"}, 17},
		{[]string{"a=12 bc=34567"}, 3 + 7 + 32},
		{[]string{"a=1", "a=2", "a"}, 18 + 18 + 17},
		{[]string{"a=1 a=2 a=3"}, 18},
		{[]string{"a=1", "bcd=2", "=3"}, 18 + 20 + 17},
	} {
		for mem, want := range map[int]int{c.size - 1: 1, c.size: 0, c.size + 1: 0} {
			o := calm()
			o.Mem = mem
			x := open(t, made(t, 9999), o)
			for n, text := range c.texts {
				if len(x.Version().Tables) != 0 {
					t.Errorf("P1002: Mem %d: flushed ahead of Apply %d of %q", mem, n, c.texts)
				}
				apply(t, x, text)
			}
			if n := len(x.Version().Tables); n != want {
				t.Errorf("P1002: Mem %d: %d tables behind %q; want %d", mem, n, c.texts, want)
			}
			whole(t, x)
			y := fresh(t)
			apply(t, y, c.texts...)
			sees(t, "P1002", x, entries(y.Scan("", "", 99)))
		}
	}
}

// TestP1002WhereFlushFindsNoRoom: Apply is as it were without it, and it is tried again.
func TestP1002WhereFlushFindsNoRoom(t *testing.T) {
	const size = 500
	o := calm()
	o.Mem = 1
	d := made(t, size)
	x := open(t, d, o)
	fill(t, d, size, 60)
	apply(t, x, "a=1", "b=2")
	holdsTables(t, x, "")
	sees(t, "P1002", x, "a 1 1, b 2 2")
	if l := d.List("t-", "wal-"); len(l) != 1 || frames(t, d, theLog(0)) != 2 {
		t.Errorf("P1005: a Flush that found no room leaves %q", l)
	}
	d.Crash(9, 9, 9, 9)
	x = open(t, d, o)
	sees(t, "P1007", x, "a 1 1, b 2 2")
	ok(t, "Delete", d.Delete("zz-fill"))
	apply(t, x, "c=3")
	holdsTables(t, x, "0 a c")
	sees(t, "P1002", x, "a 1 1, b 2 2, c 3 3")
	whole(t, x)
}

// TestP1002ATreeOfAFullDisk goes on where there is room again.
func TestP1002ATreeOfAFullDisk(t *testing.T) {
	for size := 1; size < 700; size += 7 {
		o := calm()
		o.Mem = size / 4
		o.Mem = max(o.Mem, 1)
		d := made(t, size)
		x := open(t, d, o)
		n := fillUp(t, x)
		d.Crash()
		x = open(t, d, o)
		if x.Seq() != n {
			t.Errorf("P1007: of a disk of %d bytes: Seq %d; want %d", size, x.Seq(), n)
		}
		for i := range n {
			if b, is := x.Get(fmt.Sprint("k", i)); !is || string(b) != fmt.Sprint("v", i) {
				t.Errorf("P1007: of a disk of %d bytes: Get(k%d): %q, %v", size, i, b, is)
			}
		}
	}
}

// fillUp applies batches until there is no more room, and tells how many there was room for.
func fillUp(t *testing.T, x *lsm.DB) uint64 {
	t.Helper()
	for n := uint64(0); ; n++ {
		seq, err := x.Apply(write(fmt.Sprint("k", n), fmt.Sprint("v", n)))
		if err == api.ErrFull && seq == 0 {
			return n
		}
		if err != api.OK || seq != n+1 {
			t.Fatalf("P1002: Apply %d: %d, %v", n, seq, err)
		}
	}
}

// TestP1002TheTreeEmbeds: its set's calls can be made on it, and by that its disk's.
func TestP1002TheTreeEmbeds(t *testing.T) {
	d := made(t, 999)
	x := open(t, d, calm())
	if x.Disk != d || x.Set.Disk != d {
		t.Error("the tree embeds another disk")
	}
	var of interface {
		Number() int
		Orphans() []string
		Rotate() api.Errno
		Twin() *disk.Disk
		Used() int
	} = x
	apply(t, x, "a=1")
	flush(t, x)
	ok(t, "the set's Rotate", of.Rotate())
	if of.Number() != 1 || len(of.Orphans()) != 0 || of.Used() != d.Used() {
		t.Errorf("number %d, orphans %q, %d bytes", of.Number(), of.Orphans(), of.Used())
	}
	sees(t, "P1001", open(t, of.Twin(), calm()), "a 1 1")
}
