package manifest_test

import (
	"fmt"
	"math"
	"slices"
	"strconv"
	"strings"
	"testing"

	"glacier/api"
	"glacier/disk"
	"glacier/manifest"
)

// contents tells all files of a disk, as show does, by their names.
func contents(t *testing.T, d *disk.Disk) map[string]string {
	t.Helper()
	m := map[string]string{}
	for _, name := range d.List() {
		b, err := d.Read(name)
		ok(t, "Read of "+name, err)
		n := len(b) - d.Unsynced(name)
		m[name] = string(b[:n]) + "|" + string(b[n:])
	}
	return m
}

func TestP804Commit(t *testing.T) {
	d := made(t, 1000)
	s := open(t, d)
	for n, e := range some() {
		ok(t, "P804: Commit", s.Commit(e))
		tell(t, "P804", s, version(t, some()[:n+1]...), 0)
		is(t, "P804", d, "current 0|; manifest-000000 "+words(frames(some()[:n+1]...))+"|")
		tell(t, "P803", open(t, d), version(t, some()[:n+1]...), 0)
	}
}

// TestP804CommitAsItWasTold writes what an edit says, in its order, not what it does.
func TestP804CommitAsItWasTold(t *testing.T) {
	d := made(t, 1000)
	s := open(t, d)
	e := api.Edit{Add: []api.Table{tab(9, 2, "x", "y"), tab(8, 1, "m", "n"), tab(7, 1, "a", "b")}, Wal: 1}
	ok(t, "P804: Commit", s.Commit(e))
	ok(t, "P804: Commit", s.Commit(drop(9, 7)))
	ok(t, "P804: Commit", s.Commit(api.Edit{Wal: 1}))
	is(t, "P804", d, "current 0|; manifest-000000 "+words(frames(e, drop(9, 7), api.Edit{Wal: 1}))+"|")
	tell(t, "P804", s, api.Version{Tables: []api.Table{tab(8, 1, "m", "n")}, Wal: 1}, 0)
}

func TestP804CommitOfWhatIsRefused(t *testing.T) {
	d := made(t, 1000)
	s := open(t, d)
	e := api.Edit{Add: []api.Table{tab(1, 1, "a", "c"), tab(2, 0, "b", "d")}, Seq: 5, Next: 6, Wal: 7}
	ok(t, "P804: Commit", s.Commit(e))
	was := show(t, d)
	for _, c := range []struct {
		e    api.Edit
		want api.Errno
	}{
		{drop(7), api.ErrNone}, {drop(1, 1), api.ErrNone}, {add(tab(1, 0, "x", "y")), api.ErrArg}, {add(tab(-1, 0, "x", "y")), api.ErrArg},
		{add(tab(3, 7, "x", "y")), api.ErrArg}, {add(tab(3, 1, "y", "x")), api.ErrArg}, {add(tab(3, 1, "c", "x")), api.ErrOrder},
		{api.Edit{Seq: 4}, api.ErrArg}, {api.Edit{Next: 5}, api.ErrArg}, {api.Edit{Wal: 6}, api.ErrArg}, {api.Edit{Wal: 1<<40 + 1}, api.ErrArg},
		{api.Edit{Drop: []int{2}, Add: []api.Table{tab(3, 1, "d", "e")}, Next: -1}, api.ErrArg},
	} {
		if err := s.Commit(c.e); err != c.want {
			t.Errorf("P804: Commit(%v): %v; want %v", c.e, err, c.want)
		}
		tell(t, "P5", s, version(t, e), 0)
		is(t, "P5", d, was)
	}
	// Apply's error is told, though the disk is full too.
	fill(t, d, 1000, 0)
	if err := s.Commit(drop(7)); err != api.ErrNone {
		t.Errorf("P804: Commit to a full disk: %v; want none", err)
	}
}

func TestP804CommitToAFullDisk(t *testing.T) {
	for n, e := range some() {
		need := len(frames(e))
		for room := range need + 1 {
			d := laid(t, 1000, 3, frames(some()[:n]...))
			s := open(t, d)
			fill(t, d, 1000, room)
			was := show(t, d)
			err := s.Commit(e)
			if room == need {
				ok(t, "P804: Commit", err)
				tell(t, "P804", s, version(t, some()[:n+1]...), 3)
				continue
			}
			if err != api.ErrFull {
				t.Errorf("P804: Commit with room for %d of %d bytes: %v; want full", room, need, err)
			}
			tell(t, "P5", s, version(t, some()[:n]...), 3)
			is(t, "P5", d, was)
			ok(t, "Delete", d.Delete("zz-fill"))
			ok(t, "P804: Commit", s.Commit(e))
			tell(t, "P804", open(t, d), version(t, some()[:n+1]...), 3)
		}
	}
}

func TestP804Rotate(t *testing.T) {
	for n := range len(some()) + 1 {
		v := version(t, some()[:n]...)
		for _, number := range []int{0, 1, 9, 99999, 999999, 999999998} {
			d := laid(t, 1000, number, frames(some()[:n]...))
			s := open(t, d)
			ok(t, "P804: Rotate", s.Rotate())
			tell(t, "P804", s, v, number+1)
			is(t, "P804", d, fmt.Sprintf("current %d|; manifest-%06d %s|", number+1, number+1, words(frames(whole(v)))))
			tell(t, "P804", open(t, d), v, number+1)
			ok(t, "P804: Commit", s.Commit(api.Edit{Seq: 1<<64 - 1}))
			if b, _ := d.Read(fmt.Sprintf("manifest-%06d", number+1)); string(b) != frames(whole(v), api.Edit{Seq: 1<<64 - 1}) {
				t.Errorf("P804: behind Rotate and Commit the manifest has %q", b)
			}
		}
	}
}

func TestP804RotateAgainAndAgain(t *testing.T) {
	d := made(t, 1000)
	s := open(t, d)
	for n, e := range some() {
		ok(t, "P804: Commit", s.Commit(e))
		for range 4 {
			ok(t, "P804: Rotate", s.Rotate())
			tell(t, "P805", s, version(t, some()[:n+1]...), s.Number())
		}
		if want := fmt.Sprintf("current manifest-%06d", 4*n+4); files(d) != want || s.Number() != 4*n+4 {
			t.Errorf("P804: %s, number %d; want %s", files(d), s.Number(), want)
		}
	}
}

// TestP804RotateLeavesOthers deletes the manifest that was the set's, and one of the next number.
func TestP804RotateLeavesOthers(t *testing.T) {
	d := laid(t, 1000, 5, "")
	s := open(t, d)
	for _, name := range []string{"manifest-000004", "manifest-000006", "manifest-000007", "manifest-00005", "manifest-0000005", "t-000005", "current.tmp", "other"} {
		lay(t, d, name, "x")
	}
	ok(t, "P804: Rotate", s.Rotate())
	is(t, "P804", d, "current 6|; manifest-0000005 |x; manifest-000004 |x; manifest-000006 "+words(frames(api.Edit{}))+"|; manifest-000007 |x; manifest-00005 |x; other |x; t-000005 |x")
}

func TestP804RotateAtTheLastNumber(t *testing.T) {
	d := laid(t, 1000, 999999998, frames(some()...))
	s := open(t, d)
	ok(t, "P804: Rotate", s.Rotate())
	lay(t, d, "current.tmp", "x")
	lay(t, d, "manifest-1000000000", "x")
	was := show(t, d)
	for range 2 {
		if err := s.Rotate(); err != api.ErrMany {
			t.Errorf("P804: Rotate at 999999999: %v; want many", err)
		}
		tell(t, "P5", s, version(t, some()...), 999999999)
		is(t, "P5", d, was)
	}
	ok(t, "P804: Commit", s.Commit(drop(2)))
	tell(t, "P804", open(t, d), version(t, append(some(), drop(2))...), 999999999)
	// Many is told, though the disk is full too.
	fill(t, d, 1000, 0)
	if err := s.Rotate(); err != api.ErrMany {
		t.Errorf("P804: Rotate at 999999999 on a full disk: %v; want many", err)
	}
}

func TestP804RotateOnAFullDisk(t *testing.T) {
	v := version(t, some()...)
	one := len(frames(whole(v)))
	for _, c := range []struct {
		number int
		files  map[string]string
		room   int // that is wanted
	}{
		{0, nil, one + 1},
		{9, nil, one + 2},
		{7, map[string]string{"manifest-000007.tmp": "x"}, one + 1},
		{7, map[string]string{"manifest-000008": "elder"}, one - 4},
		{7, map[string]string{"current.tmp": "1"}, one},
		{7, map[string]string{"current.tmp": "1", "manifest-000008": "elder"}, one - 5},
	} {
		room := full(t, 200, func(room int) (string, error, map[string]string, map[string]string) {
			d := laid(t, 2000, c.number, frames(some()...))
			s := open(t, d)
			for name, b := range c.files {
				put(t, d, name, b)
			}
			fill(t, d, 2000, room)
			was := contents(t, d)
			next := fmt.Sprintf("manifest-%06d", c.number+1)
			if err := s.Rotate(); err != api.OK {
				tell(t, "P5", s, v, c.number)
				is := contents(t, d)
				tell(t, "P5", open(t, d), v, c.number)
				return next, err, was, is
			}
			tell(t, "P804", s, v, c.number+1)
			tell(t, "P804", open(t, d), v, c.number+1)
			return next, nil, was, nil
		})
		if room != c.room {
			t.Errorf("P804: Rotate of %d with %q has room in %d bytes; want %d", c.number, c.files, room, c.room)
		}
	}
}

// TestP804BehindARotateThatWasRefused goes on in the manifest that there was.
func TestP804BehindARotateThatWasRefused(t *testing.T) {
	d := made(t, 1000)
	s := open(t, d)
	ok(t, "P804: Commit", s.Commit(some()[0]))
	for _, room := range []int{0, len(frames(whole(s.Version())))} {
		fill(t, d, 1000, room)
		if err := s.Rotate(); err != api.ErrFull {
			t.Errorf("P804: Rotate: %v; want full", err)
		}
		ok(t, "Delete", d.Delete("zz-fill"))
	}
	ok(t, "P804: Commit", s.Commit(some()[1]))
	is(t, "P804", d, "current 0|; manifest-000000 "+words(frames(some()[:2]...))+"|")
	ok(t, "P804: Rotate", s.Rotate())
	is(t, "P804", d, "current 1|; manifest-000001 "+words(frames(whole(version(t, some()[:2]...))))+"|")
}

func TestP804TheMostTables(t *testing.T) {
	d := made(t, 1<<24)
	s := open(t, d)
	e := many(1<<16, 0)
	ok(t, "P804: Commit", s.Commit(e))
	if err := s.Commit(add(tab(1<<16, 0, "", ""))); err != api.ErrArg {
		t.Errorf("P804: Commit of one table more: %v; want arg", err)
	}
	ok(t, "P804: Commit", s.Commit(api.Edit{Drop: []int{0}, Add: []api.Table{tab(1<<16, 0, "", "")}}))
	v := s.Version()
	ok(t, "P804: Rotate", s.Rotate())
	s = open(t, d)
	tell(t, "P804", s, v, 1)
	// As many files may be dropped and added at once.
	e.Drop = []int{1 << 16}
	for file := 1; file < 1<<16; file++ {
		e.Drop = append(e.Drop, file)
	}
	ok(t, "P804: Commit", s.Commit(e))
	tell(t, "P804", open(t, d), version(t, many(1<<16, 0)), 1)
}

// TestP805TheLongestEdit is one whose Encode has as many bytes as a frame may have.
func TestP805TheLongestEdit(t *testing.T) {
	d := made(t, 1<<28)
	s := open(t, d)
	e := add(tab(1, 1, "", strings.Repeat("k", api.MaxValue-13)))
	if n := len(manifest.Encode(e)); n != api.MaxValue {
		t.Fatalf("the edit has %d bytes; want %d", n, api.MaxValue)
	}
	ok(t, "P804: Commit", s.Commit(e))
	d.Crash()
	s = open(t, d)
	if v := s.Version(); !slices.Equal(v.Tables, e.Add) || s.Number() != 0 {
		t.Errorf("P805: %d tables, manifest %d", len(v.Tables), s.Number())
	}
	ok(t, "P804: Rotate", s.Rotate())
	d.Crash()
	s = open(t, d)
	if v := s.Version(); !slices.Equal(v.Tables, e.Add) || s.Number() != 1 {
		t.Errorf("P805: behind Rotate %d tables, manifest %d", len(v.Tables), s.Number())
	}
}

func TestP804File(t *testing.T) {
	for n, want := range map[int]string{
		0: "t-000000", 1: "t-000001", 42: "t-000042", 99999: "t-099999", 100000: "t-100000", 999999: "t-999999", 1000000: "t-1000000", 1234567: "t-1234567",
		1 << 40: "t-1099511627776", math.MaxInt: "t-" + strconv.Itoa(math.MaxInt),
	} {
		if s := manifest.File(n); s != want {
			t.Errorf("P804: File(%d): %s; want %s", n, s, want)
		}
	}
	for _, n := range []int{-1, math.MinInt} {
		manifest.File(n) // P1 alone
	}
}

func TestP804Orphans(t *testing.T) {
	d := made(t, 1000)
	s := open(t, d)
	orphans := func(want ...string) {
		t.Helper()
		for _, s := range []*manifest.Set{s, open(t, d)} {
			if l := s.Orphans(); !slices.Equal(l, want) {
				t.Errorf("P804: orphans %q; want %q", l, want)
			}
		}
	}
	orphans()
	for _, name := range []string{"t-000001", "t-000000", "t-1000000", "t-000007", "t", "t0", "tt-000001", "a", "u-000001", "wal-000000", "manifest-1", "t.000001"} {
		lay(t, d, name, "x")
	}
	orphans("t-000000", "t-000001", "t-000007", "t-1000000")
	ok(t, "P804: Commit", s.Commit(add(tab(7, 0, "a", "b"), tab(1000000, 3, "a", "b"), tab(5, 1, "a", "b"))))
	orphans("t-000000", "t-000001")
	odd := []string{"t-", "t--", "t-.", "t-0", "t-00007", "t-0000007", "t-000007.", "t-000007.tmp", "t-01000000", "t-7", "t-a", "t-x-y"}
	for _, name := range odd {
		lay(t, d, name, "")
	}
	all := append(slices.Clone(odd), "t-000000", "t-000001")
	slices.Sort(all)
	orphans(all...)
	ok(t, "P804: Commit", s.Commit(drop(7)))
	all = append(all, "t-000007")
	slices.Sort(all)
	orphans(all...)
	ok(t, "P804: Commit", s.Commit(api.Edit{Add: []api.Table{tab(1, 0, "", ""), tab(0, 0, "", "")}}))
	all = slices.DeleteFunc(all, func(name string) bool { return name == "t-000000" || name == "t-000001" })
	orphans(all...)
	ok(t, "Delete", d.Delete(all...))
	orphans()
	if got := files(d); !strings.Contains(got, "t-000000 t-000001 t-1000000") {
		t.Errorf("P804: left are %s", got)
	}
}
