package lsm_test

import (
	"errors"
	"fmt"
	"math"
	"strings"
	"testing"

	"glacier/api"
	"glacier/codec"
	"glacier/compact"
	"glacier/disk"
	"glacier/lsm"
	"glacier/manifest"
	"glacier/sst"
	"glacier/wal"
)

// numbers tells what to set each number of options to, with how great it may be.
func numbers(o *lsm.Options) map[*int]int {
	return map[*int]int{&o.Mem: 1 << 26, &o.Block: 1 << 26, &o.Shape.Zero: 100, &o.Shape.Base: 1 << 30, &o.Shape.Table: 1 << 26}
}

func TestP1001Check(t *testing.T) {
	o := calm()
	for number, most := range numbers(&o) {
		was := *number
		for n, want := range map[int]api.Errno{
			1: api.OK, 2: api.OK, most - 1: api.OK, most: api.OK,
			0: api.ErrArg, -1: api.ErrArg, most + 1: api.ErrArg, -most: api.ErrArg, math.MaxInt: api.ErrArg, math.MinInt: api.ErrArg, 1<<32 + 1: api.ErrArg,
		} {
			*number = n
			if err := lsm.Check(o); err != want {
				t.Errorf("P1001: Check(%v): %v; want %v", o, err, want)
			}
			d := made(t, 99)
			if want != api.OK {
				refused(t, fmt.Sprint(o), d, o, want)
				is(t, "P5", d, "")
			} else {
				open(t, d, o)
			}
		}
		*number = was
	}
	if err := lsm.Check(lsm.Options{}); err != api.ErrArg {
		t.Errorf("P1001: Check of no options: %v; want arg", err)
	}
	for _, draws := range [][]int{nil, {}, {-1}, {math.MinInt, math.MaxInt}} {
		o.Draws = draws
		ok(t, "P1001: Check", lsm.Check(o))
		x := open(t, made(t, 99), o)
		apply(t, x, "a=x")
		sees(t, "P1001", x, "a 1 x")
	}
}

func TestP1001OptionsAreCheckedFirst(t *testing.T) {
	d := made(t, 99)
	put(t, d, "current", "no number")
	was := show(t, d)
	refused(t, "no options", d, lsm.Options{}, api.ErrArg)
	is(t, "P5", d, was)
}

func TestP1001OpenOfAnEmptyDisk(t *testing.T) {
	for _, size := range []int{1, 2, 99, 1 << 20} {
		d := made(t, size)
		x := open(t, d, calm())
		sees(t, "P1001", x, "")
		whole(t, x)
		v := x.Version()
		if x.Seq() != 0 || len(v.Tables) != 0 || v.Seq != 0 || v.Wal != 0 || x.Sweep() != 0 {
			t.Errorf("P1001: of a new disk: Seq %d, version %v", x.Seq(), v)
		}
		if b, is := x.Get(""); is || len(b) != 0 {
			t.Errorf("P1003: Get of a new tree: %q, %v", b, is)
		}
		if done, err := x.Compact(); done || err != api.OK {
			t.Errorf("P1005: Compact of a new tree: %v, %v", done, err)
		}
		ok(t, "P1005: Flush of a new tree", x.Flush())
		was := show(t, d)
		open(t, d, calm())
		is(t, "P1001: Open again", d, was)
	}
}

// old tells a disk with a tree that has tables of several levels, and something in its log.
func old(t *testing.T) *disk.Disk {
	t.Helper()
	d := made(t, 1<<20)
	x := open(t, d, calm())
	flushed(t, x, "a=1 c=2 m=3")
	compacted(t, x)
	compacted(t, x)
	flushed(t, x, "a=4 b=5 m")
	compacted(t, x)
	flushed(t, x, "z=6")
	apply(t, x, "b y=7", "a=8")
	return d
}

const inOld = "a 5 8, c 1 2, y 4 7, z 3 6"

func TestP1001OpenOfAnElderTree(t *testing.T) {
	d := old(t)
	was := show(t, d)
	for range 3 {
		x := open(t, d, calm())
		sees(t, "P1001", x, inOld)
		is(t, "P1001: Open again", d, was)
		if x.Seq() != 5 || x.Version().Seq != 3 || x.Version().Wal != 3 {
			t.Errorf("P1001: Seq %d, version %v", x.Seq(), x.Version())
		}
		at(t, "P1003", x, "a", 4, "4")
	}
	other := lsm.Options{Mem: 1, Block: 1 << 26, Shape: compact.Shape{Zero: 100, Base: 1 << 30, Table: 1 << 26}}
	x := open(t, d, other)
	is(t, "P1001: Open with other options", d, was)
	sees(t, "P1001", x, inOld)
	apply(t, x, "q=9")
	sees(t, "P1001", x, "a 5 8, c 1 2, q 6 9, y 4 7, z 3 6")
}

func TestP1001OpenOfASpoiltManifest(t *testing.T) {
	for what, spoil := range map[string]func(d *disk.Disk){
		"no number":    func(d *disk.Disk) { lay(t, d, "current", "00") },
		"no bytes":     func(d *disk.Disk) { lay(t, d, "current", "") },
		"other number": func(d *disk.Disk) { lay(t, d, "current", "7") },
		"no manifest":  func(d *disk.Disk) { d.Delete("manifest-000000") },
	} {
		d := old(t)
		spoil(d)
		was := show(t, d)
		refused(t, what, d, calm(), api.ErrForm)
		is(t, "P5: "+what, d, was)
	}
	// A manifest that is torn is laid anew, for which a disk may have no room.
	d := made(t, 200)
	x := open(t, d, calm())
	flushed(t, x, "a=1")
	put(t, d, "manifest-000000", "torn")
	fill(t, d, 200, 3)
	refused(t, "a full disk", d, calm(), api.ErrFull)
	ok(t, "Delete", d.Delete("zz-fill"))
	sees(t, "P1001", open(t, d, calm()), "a 1 1")
}

// TestP1001OpenOfATornLog cuts a log at each place, and changes each of its bytes: what stands ahead is there.
func TestP1001OpenOfATornLog(t *testing.T) {
	d := made(t, 999)
	x := open(t, d, calm())
	flushed(t, x, "a=1")
	ends, want := []int{0}, []string{"a 1 1", "a 2 2, b 2 3", "b 2 3", "b 2 3, c 4 4"}
	for _, text := range []string{"a=2 b=3", "a", "c=4"} {
		apply(t, x, text)
		ends = append(ends, len(bytesOf(t, d, theLog(1))))
	}
	log := bytesOf(t, d, theLog(1))
	check := func(b string, place int) {
		t.Helper()
		n := 0
		for n+1 < len(ends) && ends[n+1] <= place {
			n++
		}
		twin := d.Twin()
		lay(t, twin, theLog(1), b)
		for range 2 {
			x := open(t, twin, calm())
			sees(t, fmt.Sprint("P1001: torn at ", place), x, want[n])
			if x.Seq() != uint64(1+n) {
				t.Errorf("P1003: torn at %d: Seq %d; want %d", place, x.Seq(), 1+n)
			}
		}
		x := open(t, twin, calm())
		apply(t, x, "a b c d=5")
		sees(t, "P1001", open(t, twin, calm()), fmt.Sprintf("d %d 5", 2+n))
	}
	for place := range len(log) + 1 {
		check(log[:place], place)
		check(log[:place]+"\xFF", place)
	}
	for place := range len(log) {
		check(log[:place]+string([]byte{log[place] ^ 1})+log[place+1:], place)
	}
}

func TestP1001OpenOfATornLogOnAFullDisk(t *testing.T) {
	d := made(t, 200)
	x := open(t, d, calm())
	apply(t, x, "a=1")
	whole := len(bytesOf(t, d, theLog(0)))
	put(t, d, theLog(0), "torn")
	fill(t, d, 200, whole-1)
	was := show(t, d)
	refused(t, "a full disk", d, calm(), api.ErrFull)
	is(t, "P5", d, was)
	lay(t, d, "zz-fill", "")
	sees(t, "P1001", open(t, d, calm()), "a 1 1")
}

// TestP1001OpenOfALogThatMayNotBe: Wal says a number that no segment has.
func TestP1001OpenOfALogThatMayNotBe(t *testing.T) {
	for n, want := range map[int]api.Errno{999999: api.OK, 1000000: api.ErrArg, 1 << 40: api.ErrArg} {
		d := made(t, 999)
		x := open(t, d, calm())
		flushed(t, x, "a=1")
		ok(t, "Commit", x.Commit(api.Edit{Wal: n}))
		if want == api.OK {
			sees(t, "P1001", open(t, d, calm()), "a 1 1")
			continue
		}
		refused(t, fmt.Sprint("Wal ", n), d, calm(), want)
		// It is told ahead of what is wrong with a table.
		ok(t, "Delete", d.Delete(manifest.File(x.Version().Tables[0].File)))
		_, err := lsm.Open(d, calm())
		if !errors.Is(err, want) || errors.Is(err, api.ErrForm) {
			t.Errorf("P6: %v; want %v", err, want)
		}
	}
}

func TestP1001OpenOfSpoiltTables(t *testing.T) {
	d := old(t)
	v := open(t, d, calm()).Version()
	if len(v.Tables) != 3 {
		t.Fatalf("the tables are %v", v.Tables)
	}
	// The log is torn, too: it stays so.
	put(t, d, theLog(v.Wal), "torn")
	check := func(what string, d *disk.Disk) {
		t.Helper()
		was := show(t, d)
		_, err := lsm.Open(d, calm())
		refused(t, what, d, calm(), api.ErrForm)
		if errors.Is(err, api.ErrSum) || errors.Is(err, api.ErrShort) || errors.Is(err, api.ErrNone) {
			t.Errorf("P1001: %s: %v", what, err)
		}
		is(t, "P5: "+what, d, was)
	}
	for _, p := range v.Tables {
		file := manifest.File(p.File)
		b := bytesOf(t, d, file)
		for i := range b {
			for what, spoilt := range map[string]string{
				"changed": b[:i] + string([]byte{b[i] ^ 1}) + b[i+1:],
				"cut":     b[:i],
			} {
				twin := d.Twin()
				lay(t, twin, file, spoilt)
				check(fmt.Sprintf("%s, %s at %d", file, what, i), twin)
			}
		}
		twin := d.Twin()
		put(t, twin, file, "x")
		check(file+" with a byte more", twin)
		twin = d.Twin()
		ok(t, "Delete", twin.Delete(file))
		check("a disk without "+file, twin)
	}
	sees(t, "P1001", open(t, d, calm()), inOld)
}

// TestP1001OpenOfOtherTables: a table may have other bounds than its version says, or no entries at all.
func TestP1001OpenOfOtherTables(t *testing.T) {
	d := made(t, 9999)
	x := open(t, d, calm())
	for n, l := range [][]api.Entry{
		{{Key: "a", Seq: 3, Value: []byte("1")}, {Key: "a", Seq: 1, Value: []byte("2")}, {Key: "x", Seq: 3, Gone: true}},
		{{Key: "a", Seq: 2, Value: []byte("3")}, {Key: "b", Seq: 2, Value: []byte("4")}},
		nil,
		{{Key: "b", Seq: 3, Gone: true}, {Key: "x", Seq: 2, Value: []byte("5")}, {Key: "y", Seq: 2, Value: []byte("6")}},
	} {
		b, err := sst.Build(l, 1)
		ok(t, "Build", err)
		put(t, d, manifest.File(40+n), string(b))
		first := string(rune('a' + n))
		ok(t, "Commit", x.Commit(api.Edit{Add: []api.Table{{File: 40 + n, Level: 2, First: first, Last: first}}, Seq: 3}))
	}
	x = open(t, d, calm())
	sees(t, "P1001", x, "a 3 1, y 2 6")
	at(t, "P1003", x, "a", 2, "3")
	at(t, "P1003", x, "b", 2, "4")
	at(t, "P1003", x, "x", 2, "5")
	flushed(t, x, "z=7")
	sees(t, "P1005", open(t, d, calm()), "a 3 1, y 2 6, z 4 7")
	for _, p := range x.Version().Tables {
		if p.Level == 0 && p.File < 44 {
			t.Errorf("P1005: the new table is %v", p)
		}
	}
}

// TestP1001SegmentsAheadOfWal: what they have is in tables; they go with the next Flush.
func TestP1001SegmentsAheadOfWal(t *testing.T) {
	d := made(t, 9999)
	x := open(t, d, calm())
	flushed(t, x, "a=1")
	flushed(t, x, "b=2")
	apply(t, x, "c=3")
	elder := codec.Frame([]byte("\x01a\x00\x01X"))
	put(t, d, theLog(0), string(elder))
	put(t, d, theLog(1), string(elder)+"torn")
	was := show(t, d)
	x = open(t, d, calm())
	sees(t, "P1001", x, "a 1 1, b 2 2, c 3 3")
	is(t, "P1001: Open leaves what is ahead of Wal", d, was)
	flush(t, x)
	whole(t, x)
	sees(t, "P1005", open(t, d, calm()), "a 1 1, b 2 2, c 3 3")
}

// TestP1001OpenPassesOverWhatIsNoBatch: frames that no Apply wrote neither count, nor hide what is behind them.
func TestP1001OpenPassesOverWhatIsNoBatch(t *testing.T) {
	d := made(t, 1<<20)
	x := open(t, d, calm())
	apply(t, x, "a=1")
	for _, p := range []string{"", "\x00", "\x01", "\x01a", "\x01a\x02", "\x01a\x02\x00", "\x01a\xFF\x01x", "\x01a\x00", "\x01a\x00\x01", "\x01a\x00\x02x", "\x01a\x01\x00", "\x02a\x01", "\x01b\x01\x80", "\x80\x00\x01", "\x80\x80\x04" + strings.Repeat("k", 1<<16) + "\x01"} {
		put(t, d, theLog(0), string(codec.Frame([]byte(p))))
	}
	x = open(t, d, calm())
	sees(t, "P1001", x, "a 1 1")
	apply(t, x, "b=2")
	x = open(t, d, calm())
	sees(t, "P1001", x, "a 1 1, b 2 2")
	flush(t, x)
	sees(t, "P1001", open(t, d, calm()), "a 1 1, b 2 2")
}

// TestP1001OpenGoesThroughSeveralSegments: a log may have some, though no Flush leaves more than one.
func TestP1001OpenGoesThroughSeveralSegments(t *testing.T) {
	d := made(t, 9999)
	x := open(t, d, calm())
	apply(t, x, "a=1")
	l, _, err := wal.Open(d, "wal", 0)
	ok(t, "wal.Open", err)
	ok(t, "Rotate", l.Rotate())
	x = open(t, d, calm())
	apply(t, x, "a=2 b=3")
	x = open(t, d, calm())
	sees(t, "P1001", x, "a 2 2, b 2 3")
	if frames(t, d, theLog(0)) != 1 || frames(t, d, theLog(1)) != 1 {
		t.Error("P1002: the batches are not in their segments")
	}
	flush(t, x)
	if x.Version().Wal != 2 {
		t.Errorf("P1005: the log begins at %d; want 2", x.Version().Wal)
	}
	whole(t, x)
}
