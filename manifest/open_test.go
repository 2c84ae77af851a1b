package manifest_test

import (
	"errors"
	"fmt"
	"slices"
	"strconv"
	"strings"
	"testing"

	"glacier/api"
	"glacier/manifest"
)

func TestP803OfADiskWithoutFiles(t *testing.T) {
	d := made(t, 1)
	s := open(t, d)
	tell(t, "P803", s, api.Version{}, 0)
	is(t, "P803", d, "current 0|; manifest-000000 |")
	tell(t, "P803", open(t, d), api.Version{}, 0)
	is(t, "P803", d, "current 0|; manifest-000000 |")
	d.Crash()
	tell(t, "P803", open(t, d), api.Version{}, 0)
}

// TestP803WithoutCurrent begins anew, whatever manifests there are.
func TestP803WithoutCurrent(t *testing.T) {
	d := made(t, 1000)
	put(t, d, "manifest-000000", frames(some()...))
	lay(t, d, "manifest-000000", "torn")
	put(t, d, "manifest-000001", frames(some()...))
	put(t, d, "manifest-999999999", "")
	put(t, d, "current.tmp", "77")
	lay(t, d, "current.tmp", "7")
	put(t, d, "t-000000", "left")
	put(t, d, "wal-000000", "left")
	s := open(t, d)
	tell(t, "P803", s, api.Version{}, 0)
	is(t, "P803", d, "current 0|; manifest-000000 |; t-000000 left|; wal-000000 left|")
}

// noNumbers are what the file current may not have.
func noNumbers() []string {
	return []string{
		"", "00", "01", "007", "000000", "000001", "0000000000", "0000000001", "1000000000", "1234567890", "9999999999", "99999999999999999999", "18446744073709551616",
		"-1", "-0", "+0", "+1", " 0", "0 ", "0\n", "\n0", "1\x00", "\x00", "\x01", "x", "0x1", "1x", "1_0", "1e3", "1.0", ".", "a", "\xFF", "٣", "manifest-000000", "current",
	}
}

func TestP803CurrentSaysNoNumber(t *testing.T) {
	for _, said := range noNumbers() {
		d := made(t, 1000)
		put(t, d, "current", said)
		lay(t, d, "current.tmp", "0")
		for _, number := range []int{0, 1, 7, 1000000000, 1234567890, 9999999999, 3} {
			lay(t, d, fmt.Sprintf("manifest-%06d", number), frames(add(tab(1, 1, "a", "b"))))
		}
		lay(t, d, "manifest-0000-1", "")
		was := show(t, d)
		refused(t, "P803", d, api.ErrForm)
		is(t, "P5: "+said, d, was)
		_, err := manifest.Open(d)
		var told api.Errno
		if !errors.As(err, &told) || told != api.ErrForm || err.Error() == "" || errors.Is(err, api.ErrFull) {
			t.Errorf("P803: Open of a disk whose current says %q: %v", said, err)
		}
	}
}

func TestP803ThereIsNoSuchManifest(t *testing.T) {
	for _, number := range []int{0, 1, 9, 10, 99999, 999999, 1000000, 999999999} {
		d := made(t, 1000)
		said := strconv.Itoa(number)
		put(t, d, "current", said)
		for _, name := range []string{said, "manifest-" + said, fmt.Sprintf("manifest-%05d", number), fmt.Sprintf("manifest-%07d", number), fmt.Sprintf("manifest-%010d", number), "manifest-000002", "current.tmp"} {
			if name != fmt.Sprintf("manifest-%06d", number) {
				lay(t, d, name, frames(add(tab(1, 1, "a", "b"))))
			}
		}
		was := show(t, d)
		refused(t, "P803", d, api.ErrForm)
		is(t, "P5: "+said, d, was)
	}
}

func TestP803Numbers(t *testing.T) {
	for number, file := range map[int]string{
		0: "manifest-000000", 1: "manifest-000001", 10: "manifest-000010", 99999: "manifest-099999", 100000: "manifest-100000", 999999: "manifest-999999",
		1000000: "manifest-1000000", 98765432: "manifest-98765432", 100000000: "manifest-100000000", 999999999: "manifest-999999999",
	} {
		d := made(t, 1000)
		put(t, d, "current", strconv.Itoa(number))
		put(t, d, file, frames(some()...))
		s := open(t, d)
		tell(t, "P803", s, version(t, some()...), number)
		if files(d) != "current "+file {
			t.Errorf("P803: manifest %d: %s", number, files(d))
		}
		ok(t, "P804: Commit", s.Commit(api.Edit{}))
		s = open(t, d)
		if b, _ := d.Read(file); string(b) != frames(append(some(), api.Edit{})...) {
			t.Errorf("P804: behind Commit %s has %q", file, b)
		}
		tell(t, "P803", s, version(t, some()...), number)
	}
}

func TestP803TheVersionOfItsEdits(t *testing.T) {
	for n := range len(some()) + 1 {
		d := laid(t, 1000, 3, frames(some()[:n]...))
		was := show(t, d)
		tell(t, "P803", open(t, d), version(t, some()[:n]...), 3)
		is(t, "P803", d, was)
		tell(t, "P803", open(t, d), version(t, some()[:n]...), 3)
	}
}

// repaired asks that Open tells what the edits make that come ahead of a place that cannot be read or applied,
// and lets them begin a manifest anew.
func repaired(t *testing.T, what, b string, edits ...api.Edit) {
	t.Helper()
	v := version(t, edits...)
	for _, number := range []int{0, 8, 99999, 999999, 999999998} {
		d := laid(t, 1000, number, b)
		s := open(t, d)
		tell(t, "P803: "+what, s, v, number+1)
		want := fmt.Sprintf("current %d|; manifest-%06d %s|", number+1, number+1, words(frames(whole(v))))
		is(t, "P803: "+what, d, want)
		tell(t, "P803: "+what, open(t, d), v, number+1)
		ok(t, "P804: Commit", s.Commit(api.Edit{Seq: 1<<64 - 1}))
		v := v
		v.Seq = 1<<64 - 1
		d.Crash()
		tell(t, "P803: "+what, open(t, d), v, number+1)
	}
}

func TestP803AFrameThatIsCut(t *testing.T) {
	for n := range some() {
		ahead, cut := frames(some()[:n]...), frames(some()[n])
		for size := 1; size < len(cut); size++ {
			repaired(t, fmt.Sprintf("%d edits and %d bytes", n, size), ahead+cut[:size], some()[:n]...)
		}
	}
}

func TestP803AFrameThatCannotBeRead(t *testing.T) {
	for n := range some() {
		ahead, behind := frames(some()[:n]...), frames(some()[n:]...)
		for what, bad := range map[string]string{
			"noughts that have a false sum":  "\x05\x00\x00\x00\x00\x00\x00\x00\x00\x00",
			"a length that is not canonical": "\x80\x00",
			"a length that is too great":     number(api.MaxValue + 1),
			"a length of more than 64 bits":  strings.Repeat("\xFF", 10),
			"a length that goes on":          "\xFF",
			"no edit, of no bytes":           frame(""),
			"no edit, too short":             frame("\x00\x00\x00\x00"),
			"no edit, too long":              frame("\x00\x00\x00\x00\x00\x00"),
			"no edit, a number too great":    frame("\x00\x00\x00" + number(1<<40+1) + "\x00"),
			"no edit, a number not right":    frame("\x00\x00\x80\x00\x00\x00"),
			"a table that is none":           frames(add(tab(7, 7, "a", "b"))),
			"a file that is there not":       frames(drop(77)),
			"a number below":                 frames(api.Edit{Seq: 1 << 40}, api.Edit{Seq: 1<<40 - 1}),
			"an edit refused whole":          frames(api.Edit{Add: []api.Table{tab(99, 5, "x", "y"), tab(98, 5, "y", "z")}, Seq: 1<<64 - 1}),
		} {
			if what == "a number below" {
				if n == 0 {
					repaired(t, what, bad+behind, api.Edit{Seq: 1 << 40})
				}
				continue
			}
			repaired(t, what, ahead+bad, some()[:n]...)
			repaired(t, what, ahead+bad+behind, some()[:n]...)
		}
	}
}

// TestP803ABitThatIsWrong turns bits of a manifest round: all that is ahead of the frame there is told.
func TestP803ABitThatIsWrong(t *testing.T) {
	b := frames(some()...)
	var ends []int
	for n := range some() {
		ends = append(ends, len(frames(some()[:n+1]...)))
	}
	for i := range b {
		for bit := range 8 {
			bad := []byte(b)
			bad[i] ^= 1 << bit
			n := slices.IndexFunc(ends, func(end int) bool { return i < end })
			d := laid(t, 1000, 5, string(bad))
			tell(t, "P803", open(t, d), version(t, some()[:n]...), 6)
		}
	}
}

func TestP803OtherFiles(t *testing.T) {
	manifests := []string{"manifest-000000", "manifest-000001", "manifest-000003", "manifest-012345", "manifest-999999", "manifest-1000000", "manifest-99999999", "manifest-999999999"}
	others := []string{
		"manifest", "manifest-", "manifest-0", "manifest-2", "manifest-00002", "manifest-00000", "manifest-0000002", "manifest-0000000", "manifest-0999999", "manifest-000000000", "manifest-1000000000",
		"manifest-00000a", "manifest-a", "manifest-000002.tmp", "manifest-000002-", "manifest--00001", "manifest-.00001", "manifest-1.0000", "manifest.000002", "a-manifest-000002", "manifest-99999999999999999999",
		"current.tm", "current.tmp.", "current-tmp", "currents", "t-000001", "wal-000000", "a", "0",
	}
	for _, torn := range []string{"", "torn"} {
		d := laid(t, 1000, 2, frames(some()...)+torn)
		for _, name := range append(others, manifests...) {
			lay(t, d, name, "x")
		}
		for _, name := range others[:9] {
			ok(t, "the disk's Sync", d.Sync(name))
		}
		want := made(t, 1000)
		for i, name := range others {
			if lay(t, want, name, "x"); i < 9 {
				ok(t, "the disk's Sync", want.Sync(name))
			}
		}
		number := 2
		if torn != "" {
			number = 3
			put(t, want, "manifest-000003", frames(whole(version(t, some()...))))
		} else {
			put(t, want, "manifest-000002", frames(some()...))
		}
		put(t, want, "current", strconv.Itoa(number))
		tell(t, "P803", open(t, d), version(t, some()...), number)
		is(t, "P803", d, show(t, want))
	}
}

func TestP803ElderFilesCurrentTmp(t *testing.T) {
	for _, elder := range []string{"", "0", "000000001", "999999999", strings.Repeat("x", 99)} {
		// None is written here, so the elder one is left.
		d := laid(t, 1000, 2, "")
		lay(t, d, "current.tmp", elder)
		open(t, d)
		is(t, "P803", d, "current 2|; current.tmp |"+elder+"; manifest-000002 |")
		d = laid(t, 1000, 2, "\x80")
		lay(t, d, "current.tmp", elder)
		open(t, d)
		is(t, "P803", d, "current 3|; manifest-000003 "+words(frames(api.Edit{}))+"|")
		lay(t, d, "current.tmp", elder)
		ok(t, "P804: Rotate", open(t, d).Rotate())
		is(t, "P804", d, "current 4|; manifest-000004 "+words(frames(api.Edit{}))+"|")
		d = made(t, 1000)
		put(t, d, "current.tmp", elder)
		open(t, d)
		is(t, "P803", d, "current 0|; manifest-000000 |")
	}
}

func TestP803TheLastNumberIsTorn(t *testing.T) {
	d := laid(t, 1000, 999999999, frames(some()...)+"torn")
	lay(t, d, "manifest-000000", "other")
	lay(t, d, "manifest-1000000000", "other")
	lay(t, d, "current.tmp", "elder")
	was := show(t, d)
	refused(t, "P803", d, api.ErrMany)
	is(t, "P5", d, was)
}

// TestP803WhatIsToldOutlastsACrash opens a manifest whose last bytes were not synced.
func TestP803WhatIsToldOutlastsACrash(t *testing.T) {
	for n := range len(some()) + 1 {
		d := made(t, 1000)
		put(t, d, "current", "4")
		put(t, d, "manifest-000004", frames(some()[:n]...))
		lay(t, d, "manifest-000004", frames(some()[n:]...))
		tell(t, "P803", open(t, d), version(t, some()...), 4)
		d.Crash()
		tell(t, "P805", open(t, d), version(t, some()...), 4)
	}
}

// full opens twins of a disk that leave so much room and more, up to where Open has it, and tells that.
func full(t *testing.T, size int, lay func(room int) (next string, err error, was, is map[string]string)) int {
	t.Helper()
	for room := range size {
		next, err, was, is := lay(room)
		if err == nil {
			return room
		}
		if !errors.Is(err, api.ErrFull) {
			t.Fatalf("P803: with room for %d bytes: %v; want full", room, err)
		}
		// These may be gone at an error; but what is there is what was there.
		for _, may := range []string{"current.tmp", next} {
			if _, left := is[may]; !left {
				delete(was, may)
			}
		}
		if fmt.Sprint(was) != fmt.Sprint(is) {
			t.Fatalf("P5: with room for %d bytes: %q; want %q", room, is, was)
		}
	}
	t.Fatal("P803: a disk is full for ever")
	return 0
}

func TestP803FullDisks(t *testing.T) {
	one := frames(whole(version(t, some()...)))
	for _, c := range []struct {
		what  string
		files map[string]string
		next  string
		room  int // that is wanted
	}{
		{"no files", nil, "manifest-000000", 1},
		{"an elder current.tmp", map[string]string{"current.tmp": "9"}, "manifest-000000", 0},
		{"a manifest without bytes", map[string]string{"manifest-000000": ""}, "manifest-000000", 1},
		{"an elder manifest", map[string]string{"manifest-000000": "x"}, "manifest-000000", 0},
		{"a manifest of another number", map[string]string{"manifest-000001": "x"}, "manifest-000000", 1},
		{"a manifest that is whole", map[string]string{"current": "0", "manifest-000000": frames(some()...), "manifest-000001": "x", "current.tmp": "y"}, "", 0},
		{"a manifest that is torn", map[string]string{"current": "0", "manifest-000000": frames(some()...) + "torn"}, "manifest-000001", len(one) + 1},
		{"a greater number", map[string]string{"current": "99", "manifest-000099": frames(some()...) + "torn"}, "manifest-000100", len(one) + 3},
		{"other manifests", map[string]string{"current": "3", "manifest-000003": frames(some()...) + "torn", "manifest-000000": "x", "manifest-000005": "y"}, "manifest-000004", len(one) + 1},
		{"an elder next one", map[string]string{"current": "3", "manifest-000003": frames(some()...) + "torn", "manifest-000004": "elder"}, "manifest-000004", len(one) - 4},
		{"a current.tmp", map[string]string{"current": "9", "manifest-000009": frames(some()...) + "torn", "current.tmp": "1"}, "manifest-000010", len(one) + 1},
		{"nothing but what is torn", map[string]string{"current": "0", "manifest-000000": "\x80"}, "manifest-000001", len(frames(api.Edit{})) + 1},
	} {
		room := full(t, 200, func(room int) (string, error, map[string]string, map[string]string) {
			d := made(t, 2000)
			for name, b := range c.files {
				put(t, d, name, b)
			}
			fill(t, d, 2000, room)
			was := contents(t, d)
			s, err := manifest.Open(d)
			if (s == nil) != (err != nil) {
				t.Errorf("P4: %s: %v beside %v", c.what, s, err)
			}
			return c.next, err, was, contents(t, d)
		})
		if room != c.room {
			t.Errorf("P803: %s: Open has room in %d bytes; want %d", c.what, room, c.room)
		}
	}
}
