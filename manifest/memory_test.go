package manifest_test

import (
	"errors"
	"fmt"
	"slices"
	"strings"
	"testing"
	"unsafe"

	"glacier/api"
	"glacier/disk"
	"glacier/manifest"
)

// roomy are a version and an edit to it whose lists have spare room with items in it, and whose texts all lie in
// one memory.
type roomy struct {
	memory string
	v      api.Version
	e      api.Edit
}

func newRoomy() *roomy {
	m := strings.Repeat("abcdefgh", 5)
	tables := []api.Table{tab(1, 0, m[:1], m[1:4]), tab(2, 1, m[0:2], m[2:3]), tab(3, 2, m[:0], m[7:]), tab(88, 9, "room", "room")}
	added := []api.Table{tab(4, 1, m[6:8], m[7:8]), tab(5, 0, m[8:9], m[9:10]), tab(99, 9, "room", "room")}
	return &roomy{m, api.Version{Tables: tables[:3], Seq: 1, Next: 2, Wal: 3}, api.Edit{Add: added[:2], Drop: []int{3, 77}[:1], Seq: 4, Next: 5, Wal: 6}}
}

func (r *roomy) show() string {
	return fmt.Sprint(r.v.Tables[:4], r.v, r.e.Add[:3], r.e.Drop[:2], r.e)
}

// spoil writes over all lists of it, spare room too.
func (r *roomy) spoil() {
	clear(r.v.Tables[:4])
	clear(r.e.Add[:3])
	clear(r.e.Drop[:2])
}

// apart asks that no text of some tables lies in a memory.
func apart(t *testing.T, what, memory string, tables []api.Table) {
	t.Helper()
	from := uintptr(unsafe.Pointer(unsafe.StringData(memory)))
	for _, x := range tables {
		for _, s := range []string{x.First, x.Last} {
			at := uintptr(unsafe.Pointer(unsafe.StringData(s)))
			if s != "" && from <= at && at < from+uintptr(len(memory)) {
				t.Errorf("P2: %s: %q lies in the memory that was handed in", what, s)
			}
		}
	}
}

// spoilTables writes over a list, spare room too.
func spoilTables(l []api.Table) { clear(l[:cap(l)]) }

func TestP2Apply(t *testing.T) {
	r := newRoomy()
	was := r.show()
	want, wantErr := apply(r.v, r.e)
	ok(t, "P802: Apply", wantErr)
	for range 2 {
		for _, edits := range [][]api.Edit{{r.e}, {r.e, {}}, {{}, r.e}} {
			v, err := manifest.Apply(r.v, edits...)
			if err != api.OK || !same(v, want) || r.show() != was {
				t.Fatalf("P2: Apply: %v, %v; want %v; what was handed in is %s; it was %s", v, err, want, r.show(), was)
			}
			apart(t, "Apply", r.memory, v.Tables)
			spoilTables(v.Tables)
			if r.show() != was {
				t.Errorf("P2: behind a change of what Apply told, what was handed in is %s; it was %s", r.show(), was)
			}
		}
	}
	// Without edits, with one that changes nothing, with one that is refused.
	v, _ := manifest.Apply(r.v)
	x, _ := manifest.Apply(r.v, api.Edit{})
	manifest.Apply(r.v, r.e, drop(99))
	manifest.Apply(r.v, api.Edit{Drop: r.e.Drop, Add: r.e.Add, Seq: 1, Next: 1})
	apart(t, "Apply without edits", r.memory, v.Tables)
	apart(t, "Apply of no change", r.memory, x.Tables)
	copied := api.Version{Tables: slices.Clone(r.v.Tables), Seq: 1, Next: 2, Wal: 3}
	if r.show() != was || !same(v, copied) || !same(x, copied) {
		t.Errorf("P2: %v, %v; what was handed in is %s; it was %s", v, x, r.show(), was)
	}
	spoilTables(v.Tables)
	if r.show() != was || !same(x, copied) {
		t.Error("P2: an answer of Apply shares memory")
	}
	r.spoil()
	if !same(x, copied) {
		t.Error("P2: an answer of Apply has changed with what was handed in")
	}
}

// TestP2ApplyOfListsInDisorder puts tables in order, but not those that were handed in.
func TestP2ApplyOfListsInDisorder(t *testing.T) {
	l := []api.Table{tab(3, 3, "c", "c"), tab(1, 1, "a", "a"), tab(2, 2, "b", "b"), tab(9, 0, "", "")}
	more := []api.Table{tab(7, 7-1, "c", "c"), tab(6, 5, "a", "a"), tab(8, 0, "", "")}
	was := fmt.Sprint(l, more)
	manifest.Apply(api.Version{Tables: l[:3]}, add(more[:2]...))
	manifest.Apply(api.Version{Tables: l[:3]}, drop(1), drop(2, 3))
	manifest.Apply(api.Version{Tables: l[:3]}, api.Edit{Drop: []int{3}, Add: more[:2]})
	if s := fmt.Sprint(l, more); s != was {
		t.Errorf("P2: what was handed in is %s; it was %s", s, was)
	}
}

func TestP2EncodeAndDecode(t *testing.T) {
	r := newRoomy()
	was := r.show()
	want := encode(r.e)
	b := manifest.Encode(r.e)
	again := manifest.Encode(r.e)
	clear(b[:cap(b)])
	r.spoil()
	if string(again) != want {
		t.Errorf("P2: Encode: %X; want %X", again, want)
	}
	r = newRoomy()
	room := append([]byte(want), "ROOM"...)
	e, err := manifest.Decode(room[:len(want)])
	x, _ := manifest.Decode(room[:len(want)])
	manifest.Decode(room[:len(want)-1])
	manifest.Decode(room[:len(want)+1])
	if err != api.OK || !sameEdit(e, r.e) || string(room) != want+"ROOM" || r.show() != was {
		t.Errorf("P2: Decode: %v, %v; what was handed in is %q", e, err, room)
	}
	apart(t, "Decode", unsafe.String(&room[0], len(room)), e.Add)
	clear(room)
	spoilTables(e.Add)
	if !slices.Equal(e.Drop, r.e.Drop) {
		t.Errorf("P2: two lists of an answer share memory: %v", e)
	}
	clear(e.Drop[:cap(e.Drop)])
	if !sameEdit(x, r.e) {
		t.Errorf("P2: an answer of Decode has changed: %v", x)
	}
}

func TestP2Set(t *testing.T) {
	r := newRoomy()
	d := made(t, 9999)
	s := open(t, d)
	start := api.Edit{Add: r.v.Tables, Seq: r.v.Seq, Next: r.v.Next, Wal: r.v.Wal}
	was := r.show()
	ok(t, "P804: Commit", s.Commit(start))
	ok(t, "P804: Commit", s.Commit(r.e))
	if err := s.Commit(r.e); err != api.ErrNone || r.show() != was {
		t.Errorf("P2: Commit: %v; what was handed in is %s; it was %s", err, r.show(), was)
	}
	want := version(t, start, r.e)
	less := version(t, start, r.e, drop(1))
	apart(t, "Commit", r.memory, s.Version().Tables)
	r.spoil()
	tell(t, "P2", s, want, 0)
	v := s.Version()
	spoilTables(v.Tables)
	tell(t, "P2", s, want, 0)
	v = s.Version()
	ok(t, "P804: Commit", s.Commit(drop(1)))
	ok(t, "P804: Rotate", s.Rotate())
	if !same(v, want) {
		t.Errorf("P2: what Version told has changed: %v; want %v", v, want)
	}
	lay(t, d, "t-000077", "x")
	lay(t, d, "t-000078", "x")
	l := s.Orphans()
	clear(l[:cap(l)])
	if l := s.Orphans(); !slices.Equal(l, []string{"t-000077", "t-000078"}) {
		t.Errorf("P2: Orphans: %q", l)
	}
	tell(t, "P2", open(t, d), less, 1)
}

func TestP3TheSameCallsAnswerTheSame(t *testing.T) {
	told := func() []string {
		var l []string
		r := newRun(t, 9)
		for range 300 {
			got, _ := r.step()
			l = append(l, fmt.Sprint(got, r.set.Version(), r.set.Number(), r.set.Orphans(), show(t, r.d)))
		}
		return l
	}
	if a, b := told(), told(); !slices.Equal(a, b) {
		t.Errorf("P3: two runs of the same calls tell %q and %q", a, b)
	}
}

func TestP7SetsAreApart(t *testing.T) {
	d, x := made(t, 999), made(t, 999)
	a, b := open(t, d), open(t, x)
	ok(t, "P804: Commit", a.Commit(some()[0]))
	ok(t, "P804: Rotate", b.Rotate())
	tell(t, "P7", a, version(t, some()[0]), 0)
	tell(t, "P7", b, api.Version{}, 1)
	is(t, "P7", d, "current 0|; manifest-000000 "+words(frames(some()[0]))+"|")
	// A twin of the disk goes its own way.
	twin := d.Twin()
	c := open(t, twin)
	ok(t, "P804: Commit", c.Commit(some()[1]))
	ok(t, "P804: Commit", c.Commit(some()[2]))
	tell(t, "P7", open(t, d), version(t, some()[0]), 0)
	tell(t, "P7", a, version(t, some()[0]), 0)
	tell(t, "P7", c, version(t, some()[:3]...), 0)
}

// TestP803TheSetEmbedsItsDisk: the disk's calls can be made on it.
func TestP803TheSetEmbedsItsDisk(t *testing.T) {
	d := made(t, 999)
	s := open(t, d)
	if s.Disk != d {
		t.Error("the set embeds another disk")
	}
	ok(t, "the disk's Append", s.Append("t-000003", []byte("x")))
	ok(t, "the disk's Sync", s.Sync("t-000003"))
	if l := s.Orphans(); !slices.Equal(l, []string{"t-000003"}) || s.Used() != 2 {
		t.Errorf("orphans %q, %d bytes used", l, s.Used())
	}
	var of interface {
		Twin() *disk.Disk
	} = s
	if files(of.Twin()) != files(d) {
		t.Errorf("the set's twin has %s; want %s", files(of.Twin()), files(d))
	}
	put(t, d, "current", "x")
	_, err := manifest.Open(d)
	if errors.Unwrap(err) != api.ErrForm {
		t.Errorf("P803: %v wraps %v; want form", err, errors.Unwrap(err))
	}
}
