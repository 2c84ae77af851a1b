package wal_test

import (
	"bytes"
	"strings"
	"testing"

	"glacier/api"
	"glacier/disk"
	"glacier/wal"
)

func TestP401TheExample(t *testing.T) {
	d := made(t, 1000)
	l := open(t, d, 0)
	is(t, "P401", d, "log-000000 |")
	lay(t, l, "a")
	ok(t, "P402: Sync", l.Sync())
	lay(t, l, "b")
	d.Crash(3)
	open(t, d, 0, "a")
	is(t, "P401", d, "log-000000 a|")
}

func TestP401Segment(t *testing.T) {
	for _, c := range []struct {
		name string
		n    int
		want string
	}{
		{"x", 0, "x-000000"},
		{"x", 1, "x-000001"},
		{"log", 42, "log-000042"},
		{"log", 99999, "log-099999"},
		{"log", 100000, "log-100000"},
		{"0", 999999, "0-999999"},
		{strings.Repeat("z", 32), 7, strings.Repeat("z", 32) + "-000007"},
	} {
		if s := wal.Segment(c.name, c.n); s != c.want {
			t.Errorf("P401: Segment(%s, %d): %s; want %s", c.name, c.n, s, c.want)
		}
	}
}

// wrongNames are no names of logs; some of them are files'.
func wrongNames() []string {
	return []string{
		"", "-", ".", "a-b", "a.b", "a-000000", "log-", "-log", "A", "Log", "loG", "a b", " a", "a\x00", "\x00", "a\n", "\xFF", "ä", "a/b", "a_b", "`", "{", "/", ":",
		strings.Repeat("a", 33), strings.Repeat("a", 64), strings.Repeat("a", 65), strings.Repeat("a", 1000), strings.Repeat("A", 32), strings.Repeat("a", 31) + "-",
	}
}

func TestP401Names(t *testing.T) {
	for _, name := range []string{"a", "z", "0", "9", "log", "0a9z", "000000", strings.Repeat("a", 31), strings.Repeat("a", 32), strings.Repeat("9", 32)} {
		d := made(t, 99)
		l, told, err := wal.Open(d, name, 3)
		if l == nil || len(told) != 0 || err != api.OK {
			t.Errorf("P401: Open(%s, 3): %v, %q, %v", name, l, told, err)
			continue
		}
		lay(t, l, "x")
		ok(t, "P403: Rotate", l.Rotate())
		numbers(t, "P401", l, 3, 4)
		is(t, "P401", d, name+"-000003 x|; "+name+"-000004 |")
	}
	d := made(t, 99)
	put(t, d, "log-000000", frames("a"), []byte("torn"))
	put(t, d, "log-000002", frames("b"))
	was := show(t, d)
	for _, name := range wrongNames() {
		for _, first := range []int{0, 999999, -1} {
			refused(t, "P401", d, name, first, api.ErrArg)
		}
		is(t, "P401: "+name, d, was)
	}
}

func TestP401NamesByTheirBytes(t *testing.T) {
	const right = "abcdefghijklmnopqrstuvwxyz0123456789"
	for i := range 256 {
		c := string([]byte{byte(i)})
		want := api.ErrArg
		if strings.Contains(right, c) {
			want = api.OK
		}
		for _, name := range []string{c, c + "a", "a" + c, "a" + c + "a", strings.Repeat("a", 31) + c} {
			if l, _, err := wal.Open(made(t, 9), name, 0); err != want || (l != nil) != (err == api.OK) {
				t.Errorf("P401: Open(%q): %v; want %v", name, err, want)
			}
		}
	}
}

func TestP401First(t *testing.T) {
	for _, first := range []int{0, 1, 2, 99999, 100000, 999998, 999999} {
		d := made(t, 99)
		l := open(t, d, first)
		numbers(t, "P401", l, first, first)
		is(t, "P401", d, wal.Segment("log", first)+" |")
		lay(t, l, "a")
		open(t, d, first, "a")
	}
	d := made(t, 99)
	put(t, d, "log-000000", frames("a"), []byte("torn"))
	put(t, d, "log-000002", frames("b"))
	put(t, d, "log-1000000", frames("c"))
	was := show(t, d)
	for _, first := range noNumbers() {
		refused(t, "P401", d, "log", first, api.ErrArg)
		is(t, "P401", d, was)
	}
}

func TestP401SegmentsAreGoneThrough(t *testing.T) {
	for _, c := range []struct {
		what  string
		files map[string][]byte
		first int
		told  string
		last  int
		left  string
	}{
		{"none", nil, 0, "", 0, "log-000000 |"},
		{"an empty one", map[string][]byte{"log-000000": nil}, 0, "", 0, "log-000000 |"},
		{"one", map[string][]byte{"log-000000": frames("a", "", "b")}, 0, "a,,b", 0, "log-000000 a,,b|"},
		{"several", map[string][]byte{"log-000000": frames("a", "b"), "log-000001": nil, "log-000002": frames("c")}, 0, "a,b,c", 2,
			"log-000000 a,b|; log-000001 |; log-000002 c|"},
		{"the last one empty", map[string][]byte{"log-000000": frames("a"), "log-000001": nil}, 0, "a", 1, "log-000000 a|; log-000001 |"},
		{"a gap", map[string][]byte{"log-000000": frames("a"), "log-000002": frames("c"), "log-000003": frames("d")}, 0, "a", 0, "log-000000 a|"},
		{"two gaps", map[string][]byte{"log-000004": frames("a"), "log-000005": frames("b"), "log-000007": frames("c"), "log-000009": nil, "log-999999": frames("d")}, 4, "a,b", 5,
			"log-000004 a|; log-000005 b|"},
		{"a gap at first", map[string][]byte{"log-000001": frames("a"), "log-000002": frames("c")}, 0, "", 0, "log-000000 |"},
		{"files below first", map[string][]byte{"log-000000": frames("a"), "log-000001": frames("b"), "log-000002": frames("c")}, 1, "b,c", 2,
			"log-000000 |a; log-000001 b|; log-000002 c|"},
		{"files below a gap at first", map[string][]byte{"log-000000": frames("a"), "log-000001": frames("b"), "log-000003": frames("c")}, 2, "", 2,
			"log-000000 |a; log-000001 |b; log-000002 |"},
		{"the last number", map[string][]byte{"log-999998": frames("a"), "log-999999": frames("b"), "log-1000000": frames("c")}, 998, "", 998,
			"log-000998 |; log-1000000 |c"},
		{"up to the last number", map[string][]byte{"log-999998": frames("a"), "log-999999": frames("b"), "log-1000000": frames("c")}, 999998, "a,b", 999999,
			"log-1000000 |c; log-999998 a|; log-999999 b|"},
		{"from nines to a digit more", map[string][]byte{"log-000009": frames("a"), "log-000010": frames("b"), "log-000099": nil, "log-000100": nil}, 9, "a,b", 10,
			"log-000009 a|; log-000010 b|"},
	} {
		d := made(t, 999)
		for name, b := range c.files {
			put(t, d, name, b)
		}
		l, told, err := wal.Open(d, "log", c.first)
		if err != api.OK || strings.Join(texts(told), ",") != c.told || l.Segment() != c.last {
			t.Errorf("P401: %s: %q, %v; want %q", c.what, texts(told), err, c.told)
		}
		is(t, "P401: "+c.what, d, c.left)
	}
}

// TestP401ManySegments goes through some whose numbers take another digit on the way.
func TestP401ManySegments(t *testing.T) {
	d := made(t, 1<<20)
	var want []string
	for n := 995; n <= 10005; n++ {
		put(t, d, wal.Segment("log", n), frames(wal.Segment("x", n)))
		want = append(want, wal.Segment("x", n))
	}
	put(t, d, wal.Segment("log", 10007), frames("no"))
	l := open(t, d, 995, want...)
	numbers(t, "P401", l, 995, 10005)
	if n := len(d.List()); n != 10005-995+1 {
		t.Errorf("P401: %d files are left", n)
	}
}

// torn tells a disk with a log that has bytes for segment 1, between others that are whole or not; below
// first there is one that nobody may touch.
func torn(t *testing.T, b []byte, behind bool) *disk.Disk {
	t.Helper()
	d := made(t, 9999)
	put(t, d, "log-000000", []byte("below"))
	put(t, d, "log-000001", frames("x", "y"))
	ok(t, "Sync", d.Sync("log-000001"))
	put(t, d, "log-000002", b)
	if behind {
		put(t, d, "log-000003", frames("no"))
		put(t, d, "log-000004", frames("no"), []byte("torn"))
		put(t, d, "log-000006", frames("no"))
	}
	return d
}

// middle are the texts of the segment that is torn.
func middle() []string { return []string{"a", "", "bcd", "\x00\x00", strings.Repeat("e", 130)} }

// wholeUpTo tells those texts of the middle whose frames end at or ahead of a place, and where the last of them ends.
func wholeUpTo(place int) ([]string, int) {
	at, l := 0, []string(nil)
	for _, s := range middle() {
		n := len(frames(s))
		if at+n > place {
			break
		}
		at += n
		l = append(l, s)
	}
	return l, at
}

// checkTorn opens a log whose segment 2 has bytes that can be read up to a place only, and opens it again.
func checkTorn(t *testing.T, b []byte, place int, behind bool) {
	t.Helper()
	d := torn(t, b, behind)
	whole, _ := wholeUpTo(place)
	want := append([]string{"x", "y"}, whole...)
	last, tail := 2, ""
	if behind && place == len(b) {
		want, last, tail = append(want, "no", "no"), 4, "; log-000003 no|; log-000004 no|"
	}
	for range 2 {
		l := open(t, d, 1, want...)
		numbers(t, "P401", l, 0, last)
		is(t, "P401", d, "log-000000 |"+`"below"`+"; log-000001 x,y|; log-000002 "+strings.Join(whole, ",")+"|"+tail)
	}
	l := open(t, d, 1, want...)
	lay(t, l, "more")
	open(t, d, 1, append(want, "more")...)
}

func TestP401CutAtEveryByte(t *testing.T) {
	b := frames(middle()...)
	for cut := range len(b) + 1 {
		_, place := wholeUpTo(cut)
		if place == cut {
			continue // nothing is torn there
		}
		checkTorn(t, b[:cut], cut-1, false)
		checkTorn(t, b[:cut], cut-1, true)
	}
	checkTorn(t, b, len(b), false)
	checkTorn(t, b, len(b), true)
}

func TestP401ChangedBytes(t *testing.T) {
	b := frames(middle()...)
	for i := range b {
		for x := 1; x < 256; x++ {
			changed := bytes.Clone(b)
			changed[i] ^= byte(x)
			checkTorn(t, changed, i, x%2 == 0)
		}
	}
}

func TestP401BytesThatAreNoFrame(t *testing.T) {
	for _, b := range []string{
		"\x80", "\xFF", "\x80\x00", "\x81\x80\x80\x20", "\xFF\xFF\xFF\xFF\xFF\xFF\xFF\xFF\xFF\xFF", "\xFF\xFF\xFF\xFF\xFF\xFF\xFF\xFF\xFF\x01",
		"\x00", "\x00\x00\x00\x00", "\x00\x00\x00\x00\x01", "\x01\x30\x43\xD0\xC1b", "\x01\x30\x43\xD0\xC1", "\x80\x80\x80\x20aaaaaaaa",
	} {
		checkTorn(t, []byte(b), 0, false)
		checkTorn(t, []byte(b), 0, true)
		whole := frames(middle()[:3]...)
		checkTorn(t, append(bytes.Clone(whole), b...), len(whole), true)
		checkTorn(t, append(append(bytes.Clone(whole), b...), frames("no")...), len(whole), false)
	}
}

func TestP401ATornSegmentBehindAGap(t *testing.T) {
	d := made(t, 99)
	put(t, d, "log-000000", frames("a"))
	put(t, d, "log-000002", []byte("torn"))
	put(t, d, "log.tmp", []byte("elder"))
	open(t, d, 0, "a")
	is(t, "P401", d, `log-000000 a|; log.tmp |"elder"`)
}

func TestP401AnElderFileBeside(t *testing.T) {
	for _, elder := range [][]byte{nil, []byte("elder"), frames("elder"), make([]byte, 500)} {
		for _, synced := range []bool{false, true} {
			d := made(t, 600)
			put(t, d, "log-000000", frames("a", "b"), []byte("torn"))
			put(t, d, "log-000001", frames("no"))
			put(t, d, "log.tmp", elder)
			put(t, d, "lo.tmp", []byte("lo"))
			if synced {
				ok(t, "Sync", d.Sync("log.tmp"))
			}
			open(t, d, 0, "a", "b")
			is(t, "P401", d, `lo.tmp |"lo"; log-000000 a,b|`)
		}
	}
}

func TestP401WithoutATearNothingIsLaidAnew(t *testing.T) {
	d := made(t, 99)
	put(t, d, "log-000000", frames("a"))
	put(t, d, "log.tmp", frames("no"))
	open(t, d, 0, "a")
	is(t, "P401", d, "log-000000 a|; log.tmp |no")
}

func TestP401OtherFilesAreLeft(t *testing.T) {
	d := made(t, 999)
	for _, name := range []string{
		"lo-000000", "logg-000000", "log0-000005", "0log-000005", "lo", "log", "log-", "log.", "log-.", "log--00001", "log-00005", "log-0000005", "log-1000000", "log-9999999",
		"log-00000a", "log-00000.", "log-000005.tmp", "log-000005-", "log-000-05", "log--", "log.000005", "log-0x0005", "log-000005.5", "x-log-000005", "log2.tmp", "log-000000.tmp", "log-tmp", "l", "current",
	} {
		put(t, d, name, []byte("z"))
	}
	was := show(t, d)
	put(t, d, "log-000000", frames("a"), []byte("torn"))
	put(t, d, "log-000001", nil)
	put(t, d, "log-000005", frames("no"))
	l := open(t, d, 0, "a")
	isWith(t, d, was, "log-000000")
	numbers(t, "P403", l, 0, 0)
	ok(t, "P403: Rotate", l.Rotate())
	isWith(t, d, was, "log-000000", "log-000001")
	numbers(t, "P403", l, 0, 1)
	ok(t, "P403: Truncate", l.Truncate(1))
	isWith(t, d, was, "log-000001")
	numbers(t, "P403", l, 1, 1)
}

// isWith asks that a disk is as it was, but for some files that it has now.
func isWith(t *testing.T, d *disk.Disk, was string, names ...string) {
	t.Helper()
	d = d.Twin()
	ok(t, "Delete", d.Delete(names...))
	is(t, "P401", d, was)
}

func TestP401AllAreSynced(t *testing.T) {
	d := made(t, 99)
	put(t, d, "log-000002", frames("below"))
	put(t, d, "log-000003", frames("a"))
	ok(t, "Sync", d.Sync("log-000003"))
	put(t, d, "log-000003", frames("b"))
	put(t, d, "log-000004", frames("c"))
	put(t, d, "log-000005", frames("d"))
	put(t, d, "other", frames("e"))
	is(t, "P401", d, "log-000002 |below; log-000003 a|b; log-000004 |c; log-000005 |d; other |e")
	open(t, d, 3, "a", "b", "c", "d")
	is(t, "P401", d, "log-000002 |below; log-000003 a,b|; log-000004 c|; log-000005 d|; other |e")
	d.Crash()
	open(t, d, 3, "a", "b", "c", "d")
}

// TestP401ADiskThatIsFull opens logs on disks with more and more room, up to what laying anew takes.
func TestP401ADiskThatIsFull(t *testing.T) {
	const size = 400
	whole := frames("a", "bcd")
	for _, elder := range []int{-1, 0, 1, len(whole) - 1, len(whole), len(whole) + 1} {
		for room := range len(whole) + 3 {
			d := made(t, size)
			put(t, d, "log-000001", frames("x"))
			put(t, d, "log-000002", whole, []byte("torn"))
			put(t, d, "log-000003", frames("no"))
			put(t, d, "log-000007", frames("no"))
			was := show(t, d)
			if elder >= 0 {
				put(t, d, "log.tmp", make([]byte, elder))
			}
			fill(t, d, size, room)
			if room+max(elder, 0) >= len(whole) {
				open(t, d, 1, "x", "a", "bcd")
				ok(t, "Delete", d.Delete("zz-fill"))
				is(t, "P401", d, "log-000001 x|; log-000002 a,bcd|")
				continue
			}
			refused(t, "P401", d, "log", 1, api.ErrFull)
			refused(t, "P405", d, "log", 1, api.ErrFull)
			ok(t, "Delete", d.Delete("zz-fill"))
			is(t, "P401: of a full disk", d, was)
			open(t, d, 1, "x", "a", "bcd")
			is(t, "P401", d, "log-000001 x|; log-000002 a,bcd|")
		}
	}
}

func TestP401WhatNeedsNoRoom(t *testing.T) {
	const size = 200
	for _, c := range []struct {
		files map[string][]byte
		told  []string
	}{
		{nil, nil},
		{map[string][]byte{"log-000004": frames("no")}, nil},
		{map[string][]byte{"log-000000": frames("a"), "log-000001": frames("b")}, []string{"a", "b"}},
		{map[string][]byte{"log-000000": frames("a"), "log-000001": []byte("torn"), "log-000002": frames("no")}, []string{"a"}},
	} {
		d := made(t, size)
		for name, b := range c.files {
			put(t, d, name, b)
		}
		fill(t, d, size, 0)
		open(t, d, 0, c.told...)
		open(t, d, 0, c.told...)
	}
}

func TestP405OpenTwice(t *testing.T) {
	for _, files := range []map[string][]byte{
		nil,
		{"log-000001": []byte("torn")},
		{"log-000001": frames("a", ""), "log-000002": frames("b"), "log-000004": frames("no")},
		{"log-000001": frames("a"), "log-000002": append(frames("b", "c"), 9), "log-000003": frames("no")},
		{"log-000000": []byte("below"), "log-000002": frames("no")},
	} {
		d := made(t, 999)
		for name, b := range files {
			put(t, d, name, b)
		}
		l, told, err := wal.Open(d, "log", 1)
		ok(t, "P401: Open", err)
		was := show(t, d)
		x := open(t, d, 1, texts(told)...)
		numbers(t, "P405", x, l.First(), l.Segment())
		is(t, "P405", d, was)
	}
}
