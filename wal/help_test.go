package wal_test

import (
	"math"
	"slices"
	"strconv"
	"strings"
	"testing"

	"glacier/api"
	"glacier/codec"
	"glacier/disk"
	"glacier/wal"
)

// made tells a new disk of that size.
func made(t *testing.T, size int) *disk.Disk {
	t.Helper()
	d, err := disk.New(size)
	if err != api.OK {
		t.Fatalf("New(%d): %v", size, err)
	}
	return d
}

// put lays bytes behind those of a file that must find room.
func put(t *testing.T, d *disk.Disk, name string, parts ...[]byte) {
	t.Helper()
	ok(t, "the disk's Append of "+name, d.Append(name, parts...))
}

// ok asks for OK.
func ok(t *testing.T, what string, err api.Errno) {
	t.Helper()
	if err != api.OK {
		t.Fatalf("%s: %v; want ok", what, err)
	}
}

// frames tells texts as the bytes of a segment.
func frames(texts ...string) []byte { return codec.Frames(payloads(texts...)...) }

func payloads(texts ...string) [][]byte {
	var l [][]byte
	for _, s := range texts {
		l = append(l, []byte(s))
	}
	return l
}

func texts(payloads [][]byte) []string {
	var l []string
	for _, p := range payloads {
		l = append(l, string(p))
	}
	return l
}

// open opens the log of the name log, that must tell these texts.
func open(t *testing.T, d *disk.Disk, first int, want ...string) *wal.Log {
	t.Helper()
	l, told, err := wal.Open(d, "log", first)
	if err != api.OK || l == nil || !slices.Equal(texts(told), want) {
		t.Fatalf("P401: Open from %d: %q, %v; want %q", first, texts(told), err, want)
	}
	return l
}

// lay appends texts that must find room.
func lay(t *testing.T, l *wal.Log, texts ...string) {
	t.Helper()
	ok(t, "P402: Append", l.Append(payloads(texts...)...))
}

// show tells all files of a disk: for each its name, its synced bytes, a bar, and those that are not. Frames
// are told by their payloads.
func show(t *testing.T, d *disk.Disk) string {
	t.Helper()
	var l []string
	for _, name := range d.List() {
		b, err := d.Read(name)
		ok(t, "Read of "+name, err)
		n := len(b) - d.Unsynced(name)
		l = append(l, name+" "+words(b[:n])+"|"+words(b[n:]))
	}
	return strings.Join(l, "; ")
}

// words tells bytes: the payloads of the frames that they begin with, and the others quoted.
func words(b []byte) string {
	told, n, _ := codec.ReadFrames(b)
	s := strings.Join(texts(told), ",")
	if n < len(b) {
		s += strconv.Quote(string(b[n:]))
	}
	return s
}

// is asks for a state, as show tells it.
func is(t *testing.T, promise string, d *disk.Disk, want string) {
	t.Helper()
	if s := show(t, d); s != want {
		t.Errorf("%s: the disk is %s; want %s", promise, s, want)
	}
}

// numbers asks for what a log tells of its segments.
func numbers(t *testing.T, promise string, l *wal.Log, first, last int) {
	t.Helper()
	if l.First() != first || l.Segment() != last {
		t.Errorf("%s: segments %d to %d; want %d to %d", promise, l.First(), l.Segment(), first, last)
	}
}

// refused asks that Open answers an error, and nothing beside it.
func refused(t *testing.T, promise string, d *disk.Disk, name string, first int, want api.Errno) {
	t.Helper()
	if l, told, err := wal.Open(d, name, first); l != nil || len(told) != 0 || err != want {
		t.Errorf("%s: Open(%q, %d): %v, %q, %v; want %v", promise, name, first, l, texts(told), err, want)
	}
}

// fill lays a file that leaves so much room on a disk of that size.
func fill(t *testing.T, d *disk.Disk, size, room int) {
	t.Helper()
	put(t, d, "zz-fill", make([]byte, size-room-d.Used()))
	if d.Twin().Append("zz-more", make([]byte, room)) != api.OK || d.Twin().Append("zz-more", make([]byte, room+1)) != api.ErrFull {
		t.Fatalf("the disk has not room for just %d bytes", room)
	}
}

// far are numbers at the ends of what an int can be.
func far() []int { return []int{math.MinInt, math.MinInt + 1, math.MaxInt - 1, math.MaxInt} }

// noNumbers are numbers of no segment.
func noNumbers() []int {
	return append(far(), -999999, -1, 1000000, 1000001, 9999999, 1<<32, 1<<32+1, -1<<32)
}
