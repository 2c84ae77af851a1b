package disk_test

import (
	"math"
	"strconv"
	"strings"
	"testing"

	"glacier/api"
	"glacier/disk"
)

// made tells a new disk of that size.
func made(t *testing.T, size int) *disk.Disk {
	t.Helper()
	d, err := disk.New(size)
	if err != api.OK || d == nil {
		t.Fatalf("P201: New(%d): %v, %v", size, d, err)
	}
	return d
}

// put appends texts that must find room.
func put(t *testing.T, d *disk.Disk, name string, texts ...string) {
	t.Helper()
	parts := make([][]byte, len(texts))
	for i, s := range texts {
		parts[i] = []byte(s)
	}
	ok(t, "Append of "+name, d.Append(name, parts...))
}

// ok asks for OK.
func ok(t *testing.T, what string, err api.Errno) {
	t.Helper()
	if err != api.OK {
		t.Fatalf("%s: %v; want ok", what, err)
	}
}

// show tells all that calls tell of a disk, so that two states of disks can be held against each other:
// how many bytes it has and has room for, how often it was lost, and file by file its synced bytes, a
// bar, and those that are not.
func show(t *testing.T, d *disk.Disk) string {
	t.Helper()
	l := []string{strconv.Itoa(d.Used()) + "+" + strconv.Itoa(room(t, d)) + ", " + strconv.Itoa(d.Born())}
	for _, name := range d.List() {
		b, err := d.Read(name)
		ok(t, "Read of "+name, err)
		n := len(b) - d.Unsynced(name)
		if n < 0 || n > len(b) {
			t.Fatalf("P202: %s has %d bytes; %d are not synced", name, len(b), d.Unsynced(name))
		}
		l = append(l, name+" "+string(b[:n])+"|"+string(b[n:]))
	}
	return strings.Join(l, "; ")
}

// room tells how many bytes more a small disk takes.
func room(t *testing.T, d *disk.Disk) int {
	t.Helper()
	d = d.Twin()
	for n := range 1000 {
		if d.Append("room", []byte{0}) != api.OK {
			return n
		}
	}
	t.Fatal("P202: a small disk has room for 1000 bytes and more")
	return 0
}

// is asks for a state, as show tells it.
func is(t *testing.T, promise string, d *disk.Disk, want string) {
	t.Helper()
	if s := show(t, d); s != want {
		t.Errorf("%s: the disk is %q; want %q", promise, s, want)
	}
}

// wrongNames are no names of files.
func wrongNames() []string {
	return []string{
		"", "A", "z_", "a/b", "a b", " ", "a\x00", "\x00", "a\n", "\xFF", "ä", "é.x", "`", "{", "/", ":", ",", "aZ", "Za", "a-_-a",
		strings.Repeat("a", api.MaxName+1), strings.Repeat("a", 1000), strings.Repeat("\x00", api.MaxName),
	}
}

// far are numbers at the ends of what an int can be.
func far() []int { return []int{math.MinInt, math.MinInt + 1, math.MaxInt - 1, math.MaxInt} }
