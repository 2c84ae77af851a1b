package lsm_test

import (
	"errors"
	"math"
	"slices"
	"strconv"
	"strings"
	"testing"

	"glacier/api"
	"glacier/codec"
	"glacier/compact"
	"glacier/disk"
	"glacier/lsm"
	"glacier/manifest"
	"glacier/sst"
	"glacier/wal"
)

// calm are options of a tree that flushes nothing by itself, whose tables go down as far as they can.
func calm() lsm.Options {
	return lsm.Options{Mem: 1 << 26, Block: 40, Shape: compact.Shape{Zero: 1, Base: 1, Table: 60}, Draws: []int{0, 1, 2}}
}

// made tells a new disk of that size.
func made(t *testing.T, size int) *disk.Disk {
	t.Helper()
	d, err := disk.New(size)
	if err != api.OK {
		t.Fatalf("New(%d): %v", size, err)
	}
	return d
}

// ok asks for OK.
func ok(t *testing.T, what string, err api.Errno) {
	t.Helper()
	if err != api.OK {
		t.Fatalf("%s: %v; want ok", what, err)
	}
}

// open opens a disk's tree, which must be OK.
func open(t *testing.T, d *disk.Disk, o lsm.Options) *lsm.DB {
	t.Helper()
	x, err := lsm.Open(d, o)
	if x == nil || err != nil {
		t.Fatalf("P1001: Open of %q: %v, %v", d.List(), x, err)
	}
	return x
}

// fresh opens the tree of a new disk that has room.
func fresh(t *testing.T) *lsm.DB {
	t.Helper()
	return open(t, made(t, 1<<20), calm())
}

// refused asks that Open tells no tree, and an error that wraps that one.
func refused(t *testing.T, what string, d *disk.Disk, o lsm.Options, want api.Errno) {
	t.Helper()
	x, err := lsm.Open(d, o)
	if x != nil || err == nil || !errors.Is(err, want) {
		t.Errorf("P1001: Open of %s: %v, %v; want %v", what, x, err, want)
	}
}

// put lays bytes behind those of a file that must find room, synced.
func put(t *testing.T, d *disk.Disk, name, b string) {
	t.Helper()
	ok(t, "the disk's Append of "+name, d.Append(name, []byte(b)))
	ok(t, "the disk's Sync of "+name, d.Sync(name))
}

// lay lets a file have just these bytes.
func lay(t *testing.T, d *disk.Disk, name, b string) {
	t.Helper()
	d.Delete(name)
	put(t, d, name, b)
}

// fill lays a file that leaves so much room on a disk of that size.
func fill(t *testing.T, d *disk.Disk, size, room int) {
	t.Helper()
	put(t, d, "zz-fill", strings.Repeat("z", size-room-d.Used()))
}

// bytesOf tells a file's bytes.
func bytesOf(t *testing.T, d *disk.Disk, name string) string {
	t.Helper()
	b, err := d.Read(name)
	ok(t, "the disk's Read of "+name, err)
	return string(b)
}

// show tells all files of a disk: for each its name, its bytes, and how many are not synced.
func show(t *testing.T, d *disk.Disk) string {
	t.Helper()
	var l []string
	for _, name := range d.List() {
		l = append(l, name+" "+strconv.Quote(bytesOf(t, d, name))+" "+strconv.Itoa(d.Unsynced(name)))
	}
	return strings.Join(l, "; ")
}

// is asks for a state, as show tells it.
func is(t *testing.T, what string, d *disk.Disk, want string) {
	t.Helper()
	if s := show(t, d); s != want {
		t.Fatalf("%s: the disk is %s; want %s", what, s, want)
	}
}

// frames tells how many frames a file has, all of which must be whole.
func frames(t *testing.T, d *disk.Disk, name string) int {
	t.Helper()
	l, _, err := codec.ReadFrames([]byte(bytesOf(t, d, name)))
	ok(t, "ReadFrames of "+name, err)
	return len(l)
}

// write is one of a batch: of a value, or without one.
func write(key, value string) api.Write { return api.Write{Key: key, Value: []byte(value)} }

func gone(key string) api.Write { return api.Write{Key: key, Gone: true} }

// batch tells the writes that a text names: Key=Value, or Key alone, which is deleted.
func batch(text string) []api.Write {
	var l []api.Write
	for _, word := range strings.Fields(text) {
		if key, value, is := strings.Cut(word, "="); is {
			l = append(l, write(key, value))
		} else {
			l = append(l, gone(key))
		}
	}
	return l
}

// apply applies batches that must find room.
func apply(t *testing.T, x *lsm.DB, texts ...string) {
	t.Helper()
	for _, text := range texts {
		seq := x.Seq()
		if n, err := x.Apply(batch(text)...); n != seq+1 || err != api.OK {
			t.Fatalf("P1002: Apply of %s behind %d: %d, %v", text, seq, n, err)
		}
	}
}

// flush, compact do what must find room, and something to do.
func flush(t *testing.T, x *lsm.DB) {
	t.Helper()
	ok(t, "P1005: Flush", x.Flush())
}

func compacted(t *testing.T, x *lsm.DB) {
	t.Helper()
	if done, err := x.Compact(); !done || err != api.OK {
		t.Fatalf("P1005: Compact of %v: %v, %v", x.Version().Tables, done, err)
	}
}

// flushed applies a batch and flushes it.
func flushed(t *testing.T, x *lsm.DB, text string) {
	t.Helper()
	apply(t, x, text)
	flush(t, x)
}

// sees asks for what a tree tells: of each Key its Seq and Value.
func sees(t *testing.T, what string, x *lsm.DB, want string) {
	t.Helper()
	l := x.Scan("", "", math.MaxInt)
	if got := entries(l); got != want {
		t.Errorf("%s: Scan tells %q; want %q", what, got, want)
	}
	for _, e := range l {
		if b, is := x.Get(e.Key); !is || string(b) != string(e.Value) {
			t.Errorf("%s: Get(%q): %q, %v; Scan tells %q", what, e.Key, b, is, e.Value)
		}
	}
}

// at asks for what At tells; "" stands for nothing.
func at(t *testing.T, what string, x *lsm.DB, key string, up uint64, want string) {
	t.Helper()
	if b, is := x.At(key, up); string(b) != want || is != (want != "") {
		t.Errorf("%s: At(%q, %d): %.20q, %v; want %.20q", what, key, up, b, is, want)
	}
}

// entries tells each entry by its Key, its Seq, its Value.
func entries(l []api.Entry) string {
	var words []string
	for _, e := range l {
		w := e.Key + " " + strconv.FormatUint(e.Seq, 10) + " " + string(e.Value)
		if e.Gone {
			w += "gone"
		}
		words = append(words, w)
	}
	return strings.Join(words, ", ")
}

// tables tells the tables of a version: of each its level, its bounds.
func tables(v api.Version) string {
	var words []string
	for _, p := range v.Tables {
		words = append(words, strconv.Itoa(p.Level)+" "+p.First+" "+p.Last)
	}
	return strings.Join(words, ", ")
}

// holdsTables asks for a tree's tables.
func holdsTables(t *testing.T, x *lsm.DB, want string) {
	t.Helper()
	if s := tables(x.Version()); s != want {
		t.Fatalf("P1005: the tables are %q; want %q", s, want)
	}
}

// inside tells the entries of a table of a version, whose file must be just what the version says.
func inside(t *testing.T, d *disk.Disk, p api.Table) []api.Entry {
	t.Helper()
	b := bytesOf(t, d, manifest.File(p.File))
	x, err := sst.Open([]byte(b))
	if err != nil {
		t.Fatalf("P1005: the table %v: %v", p, err)
	}
	first, last, some := x.Bounds()
	if first != p.First || last != p.Last || !some || len(b) != p.Size || d.Unsynced(manifest.File(p.File)) != 0 {
		t.Fatalf("P1005: the table %v is from %q to %q, of %d bytes", p, first, last, len(b))
	}
	return slices.Collect(x.All())
}

// theLog tells the name of a tree's segment.
func theLog(n int) string { return wal.Segment("wal", n) }

// whole asks that a tree's files are just those that its version and its log must have, and that all are synced.
func whole(t *testing.T, x *lsm.DB) {
	t.Helper()
	var l []string
	for _, name := range x.List() {
		if !strings.HasPrefix(name, "zz") && !strings.HasPrefix(name, "manifest-") {
			l = append(l, name)
		}
		if x.Unsynced(name) != 0 {
			t.Fatalf("P1007: %d bytes of %s are not synced", x.Unsynced(name), name)
		}
	}
	want := []string{"current", theLog(x.Version().Wal)}
	for _, p := range x.Version().Tables {
		want = append(want, manifest.File(p.File))
	}
	slices.Sort(want)
	if !slices.Equal(l, want) || len(x.List("manifest-")) != 1 {
		t.Fatalf("P1005: there are %q; want %q", x.List(), want)
	}
}

// room is a disk's that are left of that size.
func room(d *disk.Disk, size int) int { return size - d.Used() }
