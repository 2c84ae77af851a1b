package wal_test

import (
	"math"
	"strings"
	"testing"

	"glacier/api"
	"glacier/wal"
)

func TestP402Append(t *testing.T) {
	d := made(t, 9999)
	l := open(t, d, 7)
	var want []string
	for _, c := range [][]string{{"a"}, nil, {""}, {"b", "", "c"}, {"\x00\xFF"}, {"", ""}, {strings.Repeat("x", 127)}, {strings.Repeat("y", 128), "z"}} {
		lay(t, l, c...)
		want = append(want, c...)
		is(t, "P402", d, "log-000007 |"+strings.Join(want, ","))
		numbers(t, "P402", l, 7, 7)
	}
	open(t, d, 7, want...)
}

func TestP402AppendOfNothing(t *testing.T) {
	d := made(t, 5)
	l := open(t, d, 0)
	lay(t, l)
	ok(t, "P402: Append of an empty list", l.Append([][]byte{}...))
	is(t, "P402", d, "log-000000 |")
	ok(t, "P402: Append of nil", l.Append(nil))
	b, _ := d.Read("log-000000")
	if string(b) != "\x00\x00\x00\x00\x00" {
		t.Errorf("P402: a payload without bytes is % x", b)
	}
	lay(t, l)
	open(t, d, 0, "")
}

func TestP402AppendToTheLastSegment(t *testing.T) {
	d := made(t, 99)
	l := open(t, d, 0)
	lay(t, l, "a")
	ok(t, "P403: Rotate", l.Rotate())
	lay(t, l, "b")
	ok(t, "P403: Rotate", l.Rotate())
	lay(t, l, "c", "d")
	is(t, "P402", d, "log-000000 a|; log-000001 b|; log-000002 |c,d")
	l = open(t, d, 1, "b", "c", "d")
	lay(t, l, "e")
	is(t, "P402", d, "log-000000 a|; log-000001 b|; log-000002 c,d|e")
}

func TestP402AllOrNoneOfWhatIsTooLong(t *testing.T) {
	long := make([]byte, api.MaxValue+1)
	d := made(t, api.MaxDisk)
	l := open(t, d, 0)
	lay(t, l, "a")
	for _, c := range [][][]byte{
		{long},
		{long, []byte("b")},
		{[]byte("b"), long},
		{[]byte("b"), nil, []byte("c"), long},
		{long, long},
		{long[:api.MaxValue], long},
	} {
		if err := l.Append(c...); err != api.ErrLong {
			t.Errorf("P402: Append of %d payloads, one of them too long: %v; want long", len(c), err)
		}
		is(t, "P402", d, "log-000000 |a")
	}
	ok(t, "P402: Append of MaxValue bytes", l.Append([]byte("b"), long[:api.MaxValue]))
	_, told, err := wal.Open(d, "log", 0)
	if err != api.OK || len(told) != 3 || string(told[0]) != "a" || string(told[1]) != "b" || len(told[2]) != api.MaxValue {
		t.Errorf("P402: behind an Append of MaxValue bytes: %d payloads, %v", len(told), err)
	}
}

func TestP402ErrLongIsAheadOfErrFull(t *testing.T) {
	d := made(t, 3)
	l := open(t, d, 0)
	if err := l.Append([]byte("finds no room"), make([]byte, api.MaxValue+1)); err != api.ErrLong {
		t.Errorf("P6: too long, and no room: %v; want long", err)
	}
	if err := l.Append(make([]byte, api.MaxValue)); err != api.ErrFull {
		t.Errorf("P402: MaxValue bytes on a disk of 3: %v; want full", err)
	}
	is(t, "P402", d, "log-000000 |")
}

// TestP402AllOrNoneOfWhatFindsNoRoom appends several payloads on disks with more and more room.
func TestP402AllOrNoneOfWhatFindsNoRoom(t *testing.T) {
	const size = 300
	for _, c := range [][]string{{""}, {"b"}, {"b", "cd"}, {"b", "", strings.Repeat("e", 130)}} {
		need := len(frames(c...))
		for room := range need + 2 {
			d := made(t, size)
			l := open(t, d, 0)
			lay(t, l, "a")
			ok(t, "P402: Sync", l.Sync())
			fill(t, d, size, room)
			was, want, told := show(t, d), api.ErrFull, []string{"a"}
			if room >= need {
				want, told = api.OK, append(told, c...)
			}
			if err := l.Append(payloads(c...)...); err != want {
				t.Errorf("P402: Append of %q with room for %d bytes of %d: %v; want %v", c, room, need, err, want)
			}
			if want != api.OK {
				is(t, "P402", d, was)
			}
			open(t, d, 0, told...)
		}
	}
}

func TestP402Sync(t *testing.T) {
	d := made(t, 99)
	put(t, d, "log-000000", frames("below"))
	put(t, d, "other", []byte("o"))
	l := open(t, d, 1)
	ok(t, "P402: Sync", l.Sync())
	is(t, "P402", d, `log-000000 |below; log-000001 |; other |"o"`)
	lay(t, l, "a", "b")
	is(t, "P402", d, `log-000000 |below; log-000001 |a,b; other |"o"`)
	ok(t, "P402: Sync", l.Sync())
	is(t, "P402", d, `log-000000 |below; log-000001 a,b|; other |"o"`)
	ok(t, "P403: Rotate", l.Rotate())
	lay(t, l, "c")
	ok(t, "P402: Sync", l.Sync())
	lay(t, l, "d")
	is(t, "P402", d, `log-000000 |below; log-000001 a,b|; log-000002 c|d; other |"o"`)
}

func TestP403Rotate(t *testing.T) {
	d := made(t, 99)
	put(t, d, "log-000000", frames("below"))
	l := open(t, d, 4)
	lay(t, l, "a")
	ok(t, "P403: Rotate", l.Rotate())
	numbers(t, "P403", l, 0, 5)
	is(t, "P403", d, "log-000000 |below; log-000004 a|; log-000005 |")
	ok(t, "P403: Rotate", l.Rotate())
	numbers(t, "P403", l, 0, 6)
	is(t, "P403", d, "log-000000 |below; log-000004 a|; log-000005 |; log-000006 |")
	d.Crash()
	l = open(t, d, 4, "a")
	numbers(t, "P403", l, 0, 6)
}

func TestP403RotateAtTheLastNumber(t *testing.T) {
	d := made(t, 99)
	l := open(t, d, 999998)
	ok(t, "P403: Rotate", l.Rotate())
	lay(t, l, "a")
	for range 2 {
		if err := l.Rotate(); err != api.ErrMany {
			t.Errorf("P403: Rotate at 999999: %v; want many", err)
		}
		numbers(t, "P403", l, 999998, 999999)
		is(t, "P403", d, "log-999998 |; log-999999 |a")
	}
	lay(t, l, "b")
	ok(t, "P402: Sync", l.Sync())
	l = open(t, d, 999999, "a", "b")
	if err := l.Rotate(); err != api.ErrMany {
		t.Errorf("P403: Rotate at 999999: %v; want many", err)
	}
}

func TestP403RotateOnAFullDisk(t *testing.T) {
	const size = 99
	d := made(t, size)
	l := open(t, d, 0)
	lay(t, l, "a")
	fill(t, d, size, 0)
	ok(t, "P403: Rotate", l.Rotate())
	numbers(t, "P403", l, 0, 1)
	if err := l.Append(nil); err != api.ErrFull {
		t.Errorf("P402: Append on a full disk: %v; want full", err)
	}
	ok(t, "P402: Sync", l.Sync())
	ok(t, "Delete", d.Delete("zz-fill"))
	is(t, "P403", d, "log-000000 a|; log-000001 |")
}

func TestP403TheNextSegmentIsWithoutBytes(t *testing.T) {
	d := made(t, 99)
	l := open(t, d, 0)
	put(t, d, "log-000001", frames("laid by others"))
	ok(t, "P403: Rotate", l.Rotate())
	numbers(t, "P403", l, 0, 1)
	is(t, "P403", d, "log-000000 |; log-000001 |")
	lay(t, l, "a")
	open(t, d, 0, "a")
}

func TestP403Truncate(t *testing.T) {
	const all = "log-000001 |below; log-000003 a|; log-000004 b|; log-000005 |c"
	for _, c := range []struct {
		below, first int
		err          api.Errno
		want         string
	}{
		{math.MinInt, 1, api.OK, all},
		{-1000000, 1, api.OK, all},
		{-1, 1, api.OK, all},
		{0, 1, api.OK, all},
		{1, 1, api.OK, all},
		{2, 3, api.OK, "log-000003 a|; log-000004 b|; log-000005 |c"},
		{3, 3, api.OK, "log-000003 a|; log-000004 b|; log-000005 |c"},
		{4, 4, api.OK, "log-000004 b|; log-000005 |c"},
		{5, 5, api.OK, "log-000005 |c"},
		{6, 1, api.ErrArg, all},
		{7, 1, api.ErrArg, all},
		{999999, 1, api.ErrArg, all},
		{1000000, 1, api.ErrArg, all},
		{1 << 32, 1, api.ErrArg, all},
		{math.MaxInt, 1, api.ErrArg, all},
	} {
		d := made(t, 99)
		put(t, d, "log-000001", frames("below"))
		l := open(t, d, 3)
		lay(t, l, "a")
		ok(t, "P403: Rotate", l.Rotate())
		lay(t, l, "b")
		ok(t, "P403: Rotate", l.Rotate())
		lay(t, l, "c")
		is(t, "P403", d, all)
		for range 2 {
			if err := l.Truncate(c.below); err != c.err {
				t.Errorf("P403: Truncate(%d): %v; want %v", c.below, err, c.err)
			}
			is(t, "P403", d, c.want)
			numbers(t, "P403", l, c.first, 5)
		}
		lay(t, l, "d")
		ok(t, "P402: Sync", l.Sync())
		open(t, d, 5, "c", "d")
	}
}

func TestP403TruncateOfOneSegment(t *testing.T) {
	d := made(t, 99)
	l := open(t, d, 0)
	lay(t, l, "a")
	for _, below := range []int{-1, 0} {
		ok(t, "P403: Truncate", l.Truncate(below))
	}
	if err := l.Truncate(1); err != api.ErrArg {
		t.Errorf("P403: Truncate above the last segment: %v; want arg", err)
	}
	is(t, "P403", d, "log-000000 |a")
	numbers(t, "P403", l, 0, 0)
}

func TestP403FirstAsksTheDisk(t *testing.T) {
	d := made(t, 99)
	l := open(t, d, 5)
	for _, c := range []struct {
		file string
		want int
	}{
		{"log-000007", 5}, {"log-1", 5}, {"log-0000001", 5}, {"lo-000001", 5}, {"logg-000001", 5}, {"log-000003", 3}, {"log-000004", 3}, {"log-000000", 0},
	} {
		put(t, d, c.file)
		if n := l.First(); n != c.want {
			t.Errorf("P403: behind %s, First: %d; want %d", c.file, n, c.want)
		}
	}
	ok(t, "Delete", d.Delete("log-000000"))
	numbers(t, "P403", l, 3, 5)
	ok(t, "P403: Truncate", l.Truncate(4))
	numbers(t, "P403", l, 4, 5)
}

func TestP1ALostDisk(t *testing.T) {
	d := made(t, 99)
	l := open(t, d, 5)
	lay(t, l, "a")
	d.Lose()
	l.Sync()
	l.Rotate()
	l.Truncate(3)
	l.First()
	l.Append([]byte("b"))
	l.Rotate()
	open(t, d, 5, "b")
}

func TestP1AnyNumbers(t *testing.T) {
	for _, n := range append(noNumbers(), 0, -5, 999999) {
		for _, name := range append(wrongNames(), "log") {
			if s := wal.Segment(name, n); !strings.HasPrefix(s, name+"-") {
				t.Errorf("P401: Segment(%q, %d) = %q", name, n, s)
			}
		}
		l := open(t, made(t, 9), 0)
		l.Truncate(n)
		numbers(t, "P403", l, 0, 0)
	}
}
