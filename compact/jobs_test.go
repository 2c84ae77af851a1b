package compact_test

import (
	"fmt"
	"math/rand"
	"slices"
	"strings"
	"testing"

	"glacier/api"
	"glacier/compact"
	"glacier/manifest"
	"glacier/merge"
)

// asP904 asks for all that P904 says of the lists that Run makes.
func asP904(t *testing.T, keep uint64, bottom bool, size int, lists [][]api.Entry) {
	t.Helper()
	parts, err := compact.Run(keep, bottom, size, lists...)
	if err != api.OK {
		t.Fatalf("P904: Run of %q tells %v", showAll(lists), err)
	}
	in := map[string]int{} // of each Key the list that has it
	for i, l := range parts {
		if len(l) == 0 || !merge.Right(l) {
			t.Errorf("P904: Run tells a list %q", show(l))
		}
		for _, e := range l {
			if was, is := in[e.Key]; is && was != i {
				t.Errorf("P904: the Key %q is in two lists of %q", e.Key, showAll(parts))
			}
			in[e.Key] = i
		}
	}
	all := modelAll(lists)
	left := slices.Concat(parts...)
	if got, want := show(left), show(modelPrune(all, keep, bottom)); got != want {
		t.Errorf("P904: Run's lists are together %q; want %q", got, want)
	}
	for _, up := range []uint64{keep, keep + 1, keep + 2, keep + 5, greatest - 1, greatest} {
		if up < keep {
			continue
		}
		if got, want := modelSeen(left, up), modelSeen(all, up); got != want {
			t.Errorf("P904: Seen up to %d of what Run left by %d is %q; it was %q", up, keep, got, want)
		}
	}
	asShort(t, parts, size)
}

// asShort asks that each list but the last one has the size, and none had it ahead of its last Key.
func asShort(t *testing.T, parts [][]api.Entry, size int) {
	t.Helper()
	for i, l := range parts {
		has, ahead := 0, 0
		for k, e := range l {
			if k > 0 && l[k-1].Key != e.Key {
				ahead = has
			}
			has += compact.Size(e)
		}
		if ahead >= size || i < len(parts)-1 && has < size {
			t.Errorf("P903: list %d of %q has %d bytes, and %d ahead of its last Key; want %d", i, showAll(parts), has, ahead, size)
		}
	}
}

func TestP904(t *testing.T) {
	draw := rand.New(rand.NewSource(904))
	for range 5000 {
		asP904(t, anyKeep(draw), draw.Intn(2) == 0, 1+draw.Intn(150), anyLists(draw))
		if t.Failed() {
			return
		}
	}
}

// TestP904RunOfRun changes nothing any more, but the sizes.
func TestP904RunOfRun(t *testing.T) {
	draw := rand.New(rand.NewSource(9040))
	for range 2000 {
		keep, bottom, size := anyKeep(draw), draw.Intn(2) == 0, 1+draw.Intn(150)
		once, err := compact.Run(keep, bottom, size, anyLists(draw)...)
		twice, again := compact.Run(keep, bottom, size, once...)
		if err != api.OK || again != api.OK || showAll(once) != showAll(twice) {
			t.Fatalf("P904: Run tells %q, %v; of that %q, %v", showAll(once), err, showAll(twice), again)
		}
	}
}

// store is a version with what its tables have, and with all that was ever written.
type store struct {
	v       api.Version
	entries map[int][]api.Entry
	written []api.Entry
	shape   compact.Shape
	draw    *rand.Rand
}

// table lays entries in a file of its own, and tells their table.
func (s *store) table(level int, l []api.Entry) api.Table {
	size := 0
	for _, e := range l {
		size += compact.Size(e)
	}
	s.entries[s.v.Next] = l
	s.v.Next++
	return tab(s.v.Next-1, level, size, l[0].Key, l[len(l)-1].Key)
}

// commit makes an edit, which must be right: of tables that share Keys on a level from 1 on it is not.
func (s *store) commit(t *testing.T, what string, e api.Edit) {
	t.Helper()
	v, err := manifest.Apply(s.v, e)
	if err != api.OK {
		t.Fatalf("P905: %s: Apply of %v to %v tells %v", what, e, s.v.Tables, err)
	}
	s.v = v
	shares := func(a, b api.Table) bool { return a.Level == b.Level && a.First <= b.Last && b.First <= a.Last }
	for i, a := range v.Tables {
		for _, b := range v.Tables[:i] {
			if a.Level > 0 && shares(a, b) {
				t.Fatalf("P905: %s: %v and %v share a Key", what, a, b)
			}
		}
	}
}

// flush writes some new versions as a table of level 0.
func (s *store) flush(t *testing.T, keys int) {
	var l []api.Entry
	for range 1 + s.draw.Intn(12) {
		s.v.Seq++
		e := value(fmt.Sprintf("k%03d", s.draw.Intn(keys)), s.v.Seq, strings.Repeat("v", s.draw.Intn(9)))
		if s.draw.Intn(3) == 0 {
			e = gone(e.Key, e.Seq)
		}
		l = append(l, e)
	}
	l = modelAll([][]api.Entry{l})
	s.written = append(s.written, l...)
	s.commit(t, "a new table", api.Edit{Add: []api.Table{s.table(0, l)}})
}

// tableOf tells the table of a file.
func (s *store) tableOf(file int) api.Table {
	return s.v.Tables[slices.IndexFunc(s.v.Tables, func(t api.Table) bool { return t.File == file })]
}

// done does a job: what it may just move, it moves, if it is asked to.
func (s *store) done(t *testing.T, j compact.Job, keep uint64, move bool) {
	t.Helper()
	what := fmt.Sprintf("job %q, keep %d", task(j, true), keep)
	e := api.Edit{Drop: j.Inputs}
	if move && compact.Move(s.v, j) {
		x := s.tableOf(j.Inputs[0])
		x.Level++
		e.Add = []api.Table{x}
		s.commit(t, what, e)
		return
	}
	var lists [][]api.Entry
	for _, file := range j.Inputs {
		lists = append(lists, s.entries[file])
	}
	parts, err := compact.Run(keep, j.Bottom, s.shape.Table, lists...)
	if err != api.OK {
		t.Fatalf("P905: %s: Run tells %v", what, err)
	}
	for _, l := range parts {
		e.Add = append(e.Add, s.table(j.Level+1, l))
	}
	s.commit(t, what, e)
	for _, file := range j.Inputs {
		delete(s.entries, file)
	}
}

// held tells all versions that lie in tables.
func (s *store) held() []api.Entry {
	var lists [][]api.Entry
	for _, x := range s.v.Tables {
		lists = append(lists, s.entries[x.File])
	}
	return modelAll(lists)
}

// asSeen asks that all is seen as it was written, up to each number from keep on.
func (s *store) asSeen(t *testing.T, keep uint64) {
	t.Helper()
	held := s.held()
	for up := keep; up <= s.v.Seq+1; up += 1 + uint64(s.draw.Intn(9)) {
		if got, want := modelSeen(held, up), modelSeen(s.written, up); got != want {
			t.Fatalf("P905: up to %d, keep %d, there is seen %q; want %q", up, keep, got, want)
		}
	}
	if got, want := modelSeen(held, greatest), modelSeen(s.written, greatest); got != want {
		t.Fatalf("P905: there is seen %q; want %q", got, want)
	}
}

// calm does jobs, one behind the other, until nothing is to be done, and tells how many.
func (s *store) calm(t *testing.T, keep *uint64, move bool) (jobs int) {
	t.Helper()
	for {
		j, is := compact.Pick(s.v, s.shape)
		if want, wantIs := modelPick(s.v, s.shape); task(j, is) != task(want, wantIs) {
			t.Fatalf("P902: Pick(%v, %v) tells %q; want %q", s.v.Tables, s.shape, task(j, is), task(want, wantIs))
		}
		if !is {
			return jobs
		}
		if jobs++; jobs > 20000 {
			t.Fatalf("P905: %d jobs have come to no end", jobs)
		}
		*keep += uint64(s.draw.Intn(int(s.v.Seq-*keep) + 1))
		s.done(t, j, *keep, move)
		s.asSeen(t, *keep)
	}
}

// asCalm asks that nothing is left to be done, level by level.
func (s *store) asCalm(t *testing.T) {
	t.Helper()
	if n := len(levelOf(s.v, 0)); n >= s.shape.Zero {
		t.Errorf("P905: %d tables are left at level 0", n)
	}
	for level := 1; level <= 5; level++ {
		if hasTooMuch(levelOf(s.v, level), s.shape.Base, level) {
			t.Errorf("P905: level %d is left with too much: %v", level, s.v.Tables)
		}
	}
}

func TestP905JobsBehindOneAnother(t *testing.T) {
	for seed := range int64(60) {
		draw := rand.New(rand.NewSource(seed))
		s := &store{entries: map[int][]api.Entry{}, draw: draw}
		s.v.Next = 1
		s.shape = compact.Shape{Zero: 1 + draw.Intn(4), Base: 1 + draw.Intn(60), Table: 1 + draw.Intn(120)}
		keep, jobs, keys, move := uint64(0), 0, 5+draw.Intn(200), seed%2 == 0
		for range 40 {
			s.flush(t, keys)
			if draw.Intn(3) == 0 {
				jobs += s.calm(t, &keep, move)
				s.asCalm(t)
			}
		}
		jobs += s.calm(t, &keep, move)
		s.asCalm(t)
		if jobs < 5 {
			t.Errorf("seed %d: only %d jobs were done", seed, jobs)
		}
	}
}

// TestP905DownToLevel6: with so small a base what is written goes down as far as there are levels.
func TestP905DownToLevel6(t *testing.T) {
	s := &store{entries: map[int][]api.Entry{}, draw: rand.New(rand.NewSource(905)), shape: compact.Shape{Zero: 1, Base: 1, Table: 500}}
	keep := uint64(0)
	reached := map[int]int{}
	for i := range 3 {
		var l []api.Entry
		for n := range 90 {
			s.v.Seq++
			l = append(l, value(fmt.Sprintf("k%03d", n*(i+1)%100), s.v.Seq, strings.Repeat("v", 200)))
		}
		l = modelAll([][]api.Entry{l})
		s.written = append(s.written, l...)
		s.commit(t, "a new table", api.Edit{Add: []api.Table{s.table(0, l)}})
		s.calmQuick(t, &keep, reached)
		s.asSeen(t, keep)
		s.asCalm(t)
	}
	for level := range 6 {
		if reached[level] == 0 {
			t.Errorf("P905: no job of level %d was done", level)
		}
	}
}

// calmQuick is calm without a look at what is seen behind each job; it counts the jobs of each level.
func (s *store) calmQuick(t *testing.T, keep *uint64, reached map[int]int) {
	t.Helper()
	for jobs := 0; ; jobs++ {
		j, is := compact.Pick(s.v, s.shape)
		if !is {
			return
		}
		if jobs > 20000 {
			t.Fatalf("P905: %d jobs have come to no end", jobs)
		}
		reached[j.Level]++
		*keep = s.v.Seq
		s.done(t, j, *keep, false)
	}
}

// TestP905AllIsDeleted: at the bottom what is deleted leaves nothing behind.
func TestP905AllIsDeleted(t *testing.T) {
	s := &store{entries: map[int][]api.Entry{}, draw: rand.New(rand.NewSource(5)), shape: compact.Shape{Zero: 2, Base: 50, Table: 40}}
	for _, text := range []string{"a 1 x, b 2 y, c 3 z", "a 4 gone, b 5 gone, c 6 gone"} {
		s.v.Seq += 3
		s.written = append(s.written, row(text)...)
		s.commit(t, "a new table", api.Edit{Add: []api.Table{s.table(0, row(text))}})
	}
	j, is := compact.Pick(s.v, s.shape)
	if got := task(j, is); got != "0 of 0 1 bottom" {
		t.Fatalf("P902: Pick tells %q", got)
	}
	s.done(t, j, 6, true)
	if len(s.v.Tables) != 0 {
		t.Errorf("P905: these are left: %v", s.v.Tables)
	}
	s.asSeen(t, 6)
}

// TestP905WhatLiesDeeperIsNotSeenAgain: a version that is Gone is kept while an elder one lies below.
func TestP905WhatLiesDeeperIsNotSeenAgain(t *testing.T) {
	s := &store{entries: map[int][]api.Entry{}, draw: rand.New(rand.NewSource(5)), shape: compact.Shape{Zero: 1, Base: 1 << 20, Table: 40}}
	s.written = append(row("a 1 x, k 2 y, z 3 z"), row("b 4 new, j 6 gone, k 5 gone")...)
	deep := s.table(6, row("a 1 x, k 2 y, z 3 z"))
	s.v.Seq = 6
	s.commit(t, "what lies deep", api.Edit{Add: []api.Table{deep, s.table(0, row("b 4 new, j 6 gone, k 5 gone"))}})
	keep := uint64(6)
	if jobs := s.calm(t, &keep, false); jobs != 1 {
		t.Errorf("P905: %d jobs were done; want 1", jobs)
	}
	if got := show(s.held()); got != "a 1 x, b 4 new, j 6 gone, k 5 gone, k 2 y, z 3 z" {
		t.Errorf("P905: there is held %q", got)
	}
}
