package compact_test

import (
	"fmt"
	"math"
	"math/rand"
	"slices"
	"strings"
	"testing"
	"unsafe"

	"glacier/api"
	"glacier/compact"
)

// apart asks that no text lies in a memory.
func apart(t *testing.T, what, memory string, texts ...string) {
	t.Helper()
	from := uintptr(unsafe.Pointer(unsafe.StringData(memory)))
	for _, s := range texts {
		at := uintptr(unsafe.Pointer(unsafe.StringData(s)))
		if s != "" && from <= at && at < from+uintptr(len(memory)) {
			t.Errorf("P2: %s: %q lies in the memory that was handed in", what, s)
		}
	}
}

// roomyTree is a version whose list has spare room with tables in it, and whose texts all lie in one memory.
func roomyTree() (string, api.Version) {
	m := strings.Repeat("abcdefgh", 5)
	l := []api.Table{
		tab(1, 0, 5, m[0:2], m[2:4]), tab(2, 0, 5, m[3:4], m[5:6]), tab(3, 1, 5, m[1:2], m[2:3]), tab(4, 1, 12, m[4:5], m[6:7]),
		tab(5, 2, 5, m[5:6], m[7:8]), tab(88, 1, 5, m[8:9], m[12:13]), tab(99, 0, 500, m[8:9], m[12:13]),
	}
	return m, api.Version{Tables: l[:5], Seq: 7, Next: 6, Wal: 2}
}

func showTree(v api.Version) string {
	return fmt.Sprint(v, v.Tables[:cap(v.Tables)])
}

// spoilTables writes over a list, spare room too.
func spoilTables(l []api.Table) { clear(l[:cap(l)]) }

func TestP2Over(t *testing.T) {
	for level, want := range []string{"1 2", "3 4", "5"} {
		m, v := roomyTree()
		was := showTree(v)
		l := compact.Over(v, level, m[:1], m[7:8])
		again := compact.Over(v, level, m[:1], m[7:8])
		whole := slices.Clone(l)
		for _, x := range l {
			apart(t, "Over", m, x.First, x.Last)
		}
		spoilTables(l)
		if files(again) != want || showTree(v) != was {
			t.Errorf("P2: Over tells %q; want %q; what was handed in is %s; it was %s", files(again), want, showTree(v), was)
		}
		spoilTables(v.Tables)
		if !slices.Equal(again, whole) {
			t.Errorf("P2: what Over told has changed to %v", again)
		}
	}
}

func TestP2Pick(t *testing.T) {
	for _, c := range []struct {
		s    compact.Shape
		want string
	}{
		{compact.Shape{Zero: 2, Base: 10, Table: 1}, "0 of 1 2 3 4"},
		{compact.Shape{Zero: 3, Base: 10, Table: 1}, "1 of 4 5 bottom"},
		{compact.Shape{Zero: 3, Base: 100, Table: 1}, "nothing"},
		{compact.Shape{}, "nothing"},
	} {
		_, v := roomyTree()
		was := showTree(v)
		j, is := compact.Pick(v, c.s)
		other, otherIs := compact.Pick(v, c.s)
		compact.Move(v, j)
		if task(j, is) != c.want || showTree(v) != was {
			t.Errorf("P2: Pick tells %q; want %q; what was handed in is %s; it was %s", task(j, is), c.want, showTree(v), was)
		}
		clear(j.Inputs[:cap(j.Inputs)])
		picks(t, v, c.s, c.want)
		spoilTables(v.Tables)
		if task(other, otherIs) != c.want {
			t.Errorf("P2: what Pick told has changed to %q", task(other, otherIs))
		}
	}
}

func TestP2Move(t *testing.T) {
	_, v := roomyTree()
	was := showTree(v)
	inputs := []int{4, 77}
	for range 2 {
		if !compact.Move(v, compact.Job{Level: 1, Inputs: inputs[:1]}) || showTree(v) != was || !slices.Equal(inputs, []int{4, 77}) {
			t.Errorf("P2: behind Move what was handed in is %s, %v", showTree(v), inputs)
		}
	}
}

// roomy are two lists with entries in their spare room, and Keys and Values that lie in one memory each.
type roomy struct {
	keys   string
	values []byte
	lists  [][]api.Entry
}

func newRoomy() *roomy {
	k, m := strings.Repeat("abcdefgh", 3), []byte("xyzuvwROOM")
	a := []api.Entry{
		{Key: k[0:1], Seq: 3, Value: m[:3]},
		{Key: k[0:1], Seq: 2, Gone: true, Value: m[3:3]},
		{Key: k[2:4], Seq: 1, Value: m[3:6]},
		{Key: k[7:8], Seq: 9, Value: m[6:]},
	}
	b := []api.Entry{
		{Key: k[0:1], Seq: 1, Value: m[:2]},
		{Key: k[1:2], Seq: 1, Value: m[0:0]},
		{Key: k[4:6], Seq: 1, Value: m[4:6]},
		{Key: k[7:8], Seq: 8, Gone: true},
	}
	room := [][]api.Entry{a[:3], b[:3], a[3:]}
	return &roomy{k, m, room[:2]}
}

const inRoomy = "a 3 xyz, a 2 gone, a 1 xy | b 1 , cd 1 uvw | ef 1 vw"

func (r *roomy) show() string {
	all := r.lists[:3]
	return showAll([][]api.Entry{all[0][:4], all[1][:4], all[2]}) + " " + string(r.values)
}

// spoil writes over all that may be written over, spare room too.
func (r *roomy) spoil() {
	for i, l := range r.lists {
		clear(l[:cap(l)])
		r.lists[i] = nil
	}
	clear(r.values)
}

func TestP2Run(t *testing.T) {
	r := newRoomy()
	was := r.show()
	for range 2 {
		l, err := compact.Run(0, true, 30, r.lists...)
		parted(t, l, err, inRoomy)
		for _, e := range slices.Concat(l...) {
			apart(t, "Run", r.keys, e.Key)
		}
		compact.Run(3, true, 1, r.lists...)
		compact.Run(0, false, 0, r.lists...)
		compact.Run(0, false, 1, append(r.lists[:2:2], row("b 1 x, a 1 x"))...)
		for _, e := range r.lists[0] {
			compact.Size(e)
		}
		if s := r.show(); s != was {
			t.Fatalf("P2: behind Run what was handed in is %s; it was %s", s, was)
		}
		for i := range l {
			spoilEntries(l[i])
		}
		clear(l[:cap(l)])
		if s := r.show(); s != was {
			t.Fatalf("P2: behind a change of what Run told, what was handed in is %s; it was %s", s, was)
		}
	}
	l, err := compact.Run(0, true, 30, r.lists...)
	r.spoil()
	parted(t, l, err, inRoomy)
}

// spoilEntries writes over a list and its Values, spare room too.
func spoilEntries(l []api.Entry) {
	l = l[:cap(l)]
	for i := range l {
		v := l[i].Value[:cap(l[i].Value)]
		for k := range v {
			v[k] = '?'
		}
		l[i] = api.Entry{Key: "?", Value: []byte("?")}
	}
}

// TestP2RunsListsShareNothing writes over one list after the other, spare room too, and looks at the others.
func TestP2RunsListsShareNothing(t *testing.T) {
	draw := rand.New(rand.NewSource(2))
	for range 300 {
		lists := anyLists(draw)
		size := 1 + draw.Intn(100)
		l, _ := compact.Run(1, false, size, lists...)
		for i := range l {
			var want []string
			for k := range l {
				want = append(want, show(l[k]))
			}
			want[i] = strings.Repeat("? 0 ?, ", cap(l[i]))
			spoilEntries(l[i])
			l[i] = l[i][:cap(l[i])]
			for k := range l {
				if got := show(l[k]); got != strings.TrimSuffix(want[k], ", ") {
					t.Fatalf("P2: behind a change of list %d of what Run told, list %d is %q; it was %q", i, k, got, want[k])
				}
			}
		}
	}
}

// TestP2ValuesOfRunShareNothing writes over one Value after the other, and looks at all others.
func TestP2ValuesOfRunShareNothing(t *testing.T) {
	l, _ := compact.Run(0, false, 30, newRoomy().lists...)
	all := slices.Concat(l...)
	for i := range all {
		was := slices.Clone(all)
		for k := range was {
			was[k].Value = slices.Clone(was[k].Value)
		}
		room := all[i].Value[:cap(all[i].Value)]
		for k := range room {
			room[k] ^= 0xFF
		}
		was[i].Value = all[i].Value
		if show(all) != show(was) {
			t.Errorf("P2: behind a change of the Value %d Run's lists are %q; want %q", i, show(all), show(was))
		}
	}
}

// TestP3TheSameCalls tell the same, whatever was called between them.
func TestP3TheSameCalls(t *testing.T) {
	calls := func() string {
		draw := rand.New(rand.NewSource(3))
		var b strings.Builder
		for range 200 {
			v := api.Version{Tables: anyTables(draw, 12)}
			j, is := compact.Pick(v, anyShape(draw))
			l, err := compact.Run(anyKeep(draw), draw.Intn(2) == 0, draw.Intn(90), anyLists(draw)...)
			fmt.Fprintln(&b, task(j, is), files(compact.Over(v, draw.Intn(7), anyKey(draw), anyKey(draw))), compact.Move(v, j), showAll(l), err)
		}
		return b.String()
	}
	first := calls()
	for range 3 {
		if calls() != first {
			t.Fatal("P3: the same calls tell something else")
		}
	}
}

// TestP1WhateverIsHandedIn: versions, jobs and entries that may not be end no call by a panic.
func TestP1WhateverIsHandedIn(t *testing.T) {
	numbers := []int{math.MinInt, -1, 0, 1, 6, 7, math.MaxInt}
	for _, level := range numbers {
		for _, size := range numbers {
			v := api.Version{Tables: []api.Table{tab(-1, level, size, "b", "a"), tab(-1, level, size, "", ""), tab(-1, level, -size, "a", "a")}, Seq: greatest, Next: -1, Wal: -1}
			compact.Over(v, level, "z", "")
			for _, zero := range numbers {
				j, _ := compact.Pick(v, compact.Shape{Zero: zero, Base: 1, Table: 1})
				compact.Move(v, j)
			}
			compact.Move(v, compact.Job{Level: level, Inputs: []int{size}})
			compact.Run(greatest, true, size, []api.Entry{{}}, []api.Entry{{Gone: true}}, nil)
		}
	}
	if _, err := compact.Run(0, false, 1, make([][]api.Entry, 100)...); err != api.OK {
		t.Errorf("P1: Run of 100 lists without entries tells %v", err)
	}
}
