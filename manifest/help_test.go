package manifest_test

import (
	"encoding/binary"
	"errors"
	"fmt"
	"hash/crc32"
	"slices"
	"strconv"
	"strings"
	"testing"

	"glacier/api"
	"glacier/disk"
	"glacier/manifest"
)

// made tells a new disk of that size.
func made(t *testing.T, size int) *disk.Disk {
	t.Helper()
	d, err := disk.New(size)
	if err != api.OK {
		t.Fatalf("New(%d): %v", size, err)
	}
	return d
}

// lay lays bytes behind those of a file that must find room, put syncs them, too.
func lay(t *testing.T, d *disk.Disk, name, b string) {
	t.Helper()
	ok(t, "the disk's Append of "+name, d.Append(name, []byte(b)))
}

func put(t *testing.T, d *disk.Disk, name, b string) {
	t.Helper()
	lay(t, d, name, b)
	ok(t, "the disk's Sync of "+name, d.Sync(name))
}

// fill lays a file that leaves so much room on a disk of that size.
func fill(t *testing.T, d *disk.Disk, size, room int) {
	t.Helper()
	put(t, d, "zz-fill", strings.Repeat("z", size-room-d.Used()))
}

// ok asks for OK.
func ok(t *testing.T, what string, err api.Errno) {
	t.Helper()
	if err != api.OK {
		t.Fatalf("%s: %v; want ok", what, err)
	}
}

// open opens a disk's set, which must be OK.
func open(t *testing.T, d *disk.Disk) *manifest.Set {
	t.Helper()
	s, err := manifest.Open(d)
	if err != nil || s == nil {
		t.Fatalf("P803: Open of %s: %v, %v", show(t, d), s, err)
	}
	return s
}

// refused asks that Open answers an error that is, or wraps, that one, and no set.
func refused(t *testing.T, promise string, d *disk.Disk, want api.Errno) {
	t.Helper()
	was := show(t, d)
	if s, err := manifest.Open(d); s != nil || err == nil || !errors.Is(err, want) {
		t.Errorf("%s: Open of %s: %v, %v; want %v", promise, was, s, err, want)
	}
}

// tell asks what a set tells.
func tell(t *testing.T, promise string, s *manifest.Set, v api.Version, number int) {
	t.Helper()
	if !same(s.Version(), v) || s.Number() != number {
		t.Errorf("%s: the version is %v, the number %d; want %v, %d", promise, s.Version(), s.Number(), v, number)
	}
}

// show tells all files of a disk: for each its name, its synced bytes, a bar, and those that are not.
func show(t *testing.T, d *disk.Disk) string {
	t.Helper()
	var l []string
	for _, name := range d.List() {
		b, err := d.Read(name)
		ok(t, "Read of "+name, err)
		n := len(b) - d.Unsynced(name)
		l = append(l, name+" "+words(string(b[:n]))+"|"+words(string(b[n:])))
	}
	return strings.Join(l, "; ")
}

// words tells bytes: text as it is, others quoted.
func words(b string) string {
	if q := strconv.Quote(b); q != `"`+b+`"` {
		return q
	}
	return b
}

// is asks for a state, as show tells it.
func is(t *testing.T, promise string, d *disk.Disk, want string) {
	t.Helper()
	if s := show(t, d); s != want {
		t.Errorf("%s: the disk is %s; want %s", promise, s, want)
	}
}

// files tells names, behind one another.
func files(d *disk.Disk) string { return strings.Join(d.List(), " ") }

// tab is a table of one byte.
func tab(file, level int, first, last string) api.Table {
	return api.Table{File: file, Level: level, First: first, Last: last, Size: 1}
}

// add is an edit that adds tables, drop one that drops files.
func add(tables ...api.Table) api.Edit { return api.Edit{Add: tables} }

func drop(files ...int) api.Edit { return api.Edit{Drop: files} }

// same tells whether two versions are the same, sameEdit whether two edits are.
func same(a, b api.Version) bool {
	return slices.Equal(a.Tables, b.Tables) && a.Seq == b.Seq && a.Next == b.Next && a.Wal == b.Wal
}

func sameEdit(a, b api.Edit) bool {
	return slices.Equal(a.Add, b.Add) && slices.Equal(a.Drop, b.Drop) && a.Seq == b.Seq && a.Next == b.Next && a.Wal == b.Wal
}

// version makes a version by edits that must be right.
func version(t *testing.T, edits ...api.Edit) api.Version {
	t.Helper()
	v, err := manifest.Apply(api.Version{}, edits...)
	ok(t, "P802: Apply", err)
	return v
}

// whole is the one edit that makes a version of the zero one.
func whole(v api.Version) api.Edit {
	return api.Edit{Add: v.Tables, Seq: v.Seq, Next: v.Next, Wal: v.Wal}
}

// number, text, list write parts of an edit; encode and frame write edits by the words of the chapters.
func number(v uint64) string { return string(binary.AppendUvarint(nil, v)) }

func text(s string) string { return number(uint64(len(s))) + s }

func encode(e api.Edit) string {
	var b strings.Builder
	ints := func(l ...int) {
		for _, n := range l {
			b.WriteString(number(uint64(n)))
		}
	}
	ints(len(e.Add))
	for _, t := range e.Add {
		ints(t.File, t.Level)
		b.WriteString(text(t.First) + text(t.Last))
		ints(t.Size)
	}
	ints(len(e.Drop))
	ints(e.Drop...)
	b.WriteString(number(e.Seq))
	ints(e.Next, e.Wal)
	return b.String()
}

func frame(payload string) string {
	b := binary.LittleEndian.AppendUint32([]byte(number(uint64(len(payload)))), crc32.Checksum([]byte(payload), crc32.MakeTable(crc32.Castagnoli)))
	return string(b) + payload
}

func frames(edits ...api.Edit) string {
	var b strings.Builder
	for _, e := range edits {
		b.WriteString(frame(encode(e)))
	}
	return b.String()
}

// laid is a disk on which a manifest with these bytes is the current one, all synced.
func laid(t *testing.T, size, number int, b string) *disk.Disk {
	t.Helper()
	d := made(t, size)
	put(t, d, "current", strconv.Itoa(number))
	put(t, d, fmt.Sprintf("manifest-%06d", number), b)
	return d
}

// some are edits that make versions of several tables, one behind the other, with all that an edit may have.
func some() []api.Edit {
	return []api.Edit{
		{Add: []api.Table{tab(0, 0, "b", "m"), tab(1, 0, "a", "z")}, Seq: 5, Next: 2, Wal: 1},
		{},
		{Add: []api.Table{{File: 2, Level: 1, First: "a", Last: "k", Size: 4000}, {File: 3, Level: 1, First: "l", Last: "\xFF", Size: 0}}, Drop: []int{1, 0}, Next: 4},
		{Add: []api.Table{tab(1<<40, 6, "", "")}, Drop: []int{3}, Seq: 1<<64 - 1, Next: 1 << 40, Wal: 1 << 40},
	}
}
