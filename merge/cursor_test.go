package merge_test

import (
	"iter"
	"slices"
	"strconv"
	"strings"
	"testing"

	"glacier/api"
	"glacier/merge"
)

// watched is a source that tells what is asked of it.
type watched struct {
	entries []api.Entry
	asked   int  // how many entries it has told, when it was gone over last
	begun   int  // how often it was gone over
	ended   int  // how often it was left, or came to its end
	going   *int // how many of several sources are at work just now
	crowd   *int // the most that ever were
}

// watch tells a source for each list; none of them is to be at work while another one is.
func watch(lists ...[]api.Entry) ([]*watched, []iter.Seq[api.Entry]) {
	going, crowd := 0, 0
	var sources []*watched
	var seqs []iter.Seq[api.Entry]
	for _, l := range lists {
		w := &watched{entries: l, going: &going, crowd: &crowd}
		sources = append(sources, w)
		seqs = append(seqs, w.all)
	}
	return sources, seqs
}

func (w *watched) work(more int) {
	*w.going += more
	*w.crowd = max(*w.crowd, *w.going)
}

func (w *watched) all(yield func(api.Entry) bool) {
	w.work(1)
	defer w.work(-1)
	w.begun++
	defer func() { w.ended++ }()
	w.asked = 0
	for _, e := range w.entries {
		w.asked++
		w.work(-1)
		more := yield(e)
		w.work(1)
		if !more {
			return
		}
	}
}

// askedOf asks that no source was asked for more than one entry more than were told of it, or passed over for what
// was told.
func askedOf(t *testing.T, sources []*watched, told []api.Entry) {
	t.Helper()
	for i, w := range sources {
		of := 0
		for _, e := range told {
			if slices.ContainsFunc(w.entries, func(x api.Entry) bool { return merge.Compare(x, e) == 0 }) {
				of++
			}
		}
		if w.asked > of+1 {
			t.Errorf("P602: source %d, %q, was asked for %d entries, while %q was told", i, show(w.entries), w.asked, show(told))
		}
	}
}

// leftAlone asks that all sources have ended as often as they have begun, each alone.
func leftAlone(t *testing.T, sources []*watched, times int) {
	t.Helper()
	for i, w := range sources {
		if w.begun != times || w.ended != times {
			t.Errorf("P602: source %d has begun %d times, and ended %d times; want %d", i, w.begun, w.ended, times)
		}
		if *w.going != 0 || *w.crowd > 1 {
			t.Errorf("P602: of all sources %d are at work; %d were at one time", *w.going, *w.crowd)
		}
	}
}

// someLists are lists of which sources are made.
func someLists() [][][]api.Entry {
	return [][][]api.Entry{
		{},
		{nil},
		{row("a 5 x, a 3 y, a 1 z, b 2 gone")},
		{nil, row("a 2 x, a 1 y"), nil},
		{row("a 5 x, b 2 gone"), row("a 3 y, a 1 z")},
		{row("k 9 x, k 8 x, k 7 x, k 6 x"), row("a 1 y, z 1 y")},
		{row("a 1 y, z 1 y"), row("k 9 x, k 8 x, k 7 x, k 6 x"), row("k 8 z, k 6 z, k 5 z")},
		{row("a 3 1, a 2 1, a 1 1"), row("a 3 2, a 2 2, a 1 2"), row("a 3 3, a 2 3, a 1 3")},
		{row("a 9 1"), row("b 9 2"), row("c 9 3"), row("d 9 4"), row("e 9 5"), row("f 9 6"), row("g 9 7")},
		{row("g 9 7"), row("f 9 6"), row("e 9 5"), row("d 9 4"), row("c 9 3"), row("b 9 2"), row("a 9 1")},
	}
}

func TestP602WhatACursorAsks(t *testing.T) {
	for _, lists := range someLists() {
		sources, seqs := watch(lists...)
		seq := merge.Cursor(seqs...)
		leftAlone(t, sources, 0)
		all := modelMerge(lists)
		for steps := range len(all) {
			var told []api.Entry
			for e := range seq {
				told = append(told, e)
				askedOf(t, sources, told)
				if len(told) > steps {
					break
				}
			}
			is(t, "P602: a cursor that is left", told, api.OK, show(all[:steps+1]))
			askedOf(t, sources, told)
			leftAlone(t, sources, steps+1)
		}
		is(t, "P602: Cursor", slices.Collect(seq), api.OK, show(all))
		leftAlone(t, sources, len(all)+1)
		for i, w := range sources {
			if w.asked != len(w.entries) {
				t.Errorf("P602: source %d was asked for %d entries; it has %d", i, w.asked, len(w.entries))
			}
		}
	}
}

// TestP602ACursorAsksWhenItMust: what was told is passed by only when one more entry is wanted.
func TestP602ACursorAsksWhenItMust(t *testing.T) {
	sources, seqs := watch(row("k 9 x, k 8 x, k 7 x"), row("k 8 y"), nil)
	want := [][3]int{{1, 1, 0}, {2, 1, 0}, {3, 1, 0}}
	i := 0
	for range merge.Cursor(seqs...) {
		if got := [3]int{sources[0].asked, sources[1].asked, sources[2].asked}; got != want[i] {
			t.Errorf("P602: behind %d entries sources were asked for %v; want %v", i+1, got, want[i])
		}
		i++
	}
}

// endless tells k, Seq by Seq, from one on, and never comes to its end.
func endless(from uint64) iter.Seq[api.Entry] {
	return func(yield func(api.Entry) bool) {
		for i := uint64(0); yield(value("k"+strconv.FormatUint(1000+i, 10), from, "")); i++ {
		}
	}
}

func TestP602SourcesWithoutAnEnd(t *testing.T) {
	var told []api.Entry
	for e := range merge.Cursor(endless(1), slices.Values(row("k1001 9 x")), endless(3), endless(2)) {
		if told = append(told, e); len(told) == 8 {
			break
		}
	}
	is(t, "P602: Cursor", told, api.OK, "k1000 3 , k1000 2 , k1000 1 , k1001 9 x, k1001 3 , k1001 2 , k1001 1 , k1002 3 ")
}

func TestP7ACursorWithinItself(t *testing.T) {
	seq := merge.Cursor(sequences([][]api.Entry{row("a 1 x, c 1 z"), row("b 1 y")})...)
	s := ""
	for a := range seq {
		for b := range seq {
			s += a.Key + b.Key + " "
			if b.Key == "b" && a.Key == "b" {
				break
			}
		}
	}
	if s != "aa ab ac ba bb ca cb cc " {
		t.Errorf("P7: a cursor within itself tells %q", s)
	}
}

func TestP602ACursorOfCursors(t *testing.T) {
	for _, lists := range someLists() {
		sources, seqs := watch(lists...)
		all := modelMerge(lists)
		seq := merge.Cursor(merge.Cursor(seqs[:len(seqs)/2]...), merge.Cursor(merge.Cursor(seqs[len(seqs)/2:]...)))
		for times := 1; times <= 2; times++ {
			is(t, "P602: a cursor of cursors", slices.Collect(seq), api.OK, show(all))
			leftAlone(t, sources, times)
		}
		for range seq {
			break
		}
		if len(all) > 0 {
			askedOf(t, sources, all[:1])
		}
		leftAlone(t, sources, 3)
	}
}

func TestP7AYieldThatHasAnsweredFalseIsNotCalled(t *testing.T) {
	for _, lists := range someLists() {
		seq := merge.Cursor(sequences(lists)...)
		for steps := 1; steps <= len(modelMerge(lists)); steps++ {
			calls := 0
			seq(func(api.Entry) bool {
				calls++
				return calls < steps
			})
			if calls != steps {
				t.Errorf("P7: a cursor that is left at step %d goes on to %d", steps, calls)
			}
		}
	}
}

// TestP602SourcesAsTheyAreThen: a cursor keeps no entries from one time to the next one.
func TestP602SourcesAsTheyAreThen(t *testing.T) {
	l := row("a 1 x")
	source := func(yield func(api.Entry) bool) { slices.Values(l)(yield) }
	seq := merge.Cursor(source, slices.Values(row("b 1 y")))
	is(t, "P602: Cursor", slices.Collect(seq), api.OK, "a 1 x, b 1 y")
	l = row("b 2 z, b 1 z")
	is(t, "P602: Cursor, later", slices.Collect(seq), api.OK, "b 2 z, b 1 z")
}

// caught tells what a function panics with.
func caught(f func()) (fault any) {
	defer func() { fault = recover() }()
	f()
	return nil
}

// TestP602ALoopThatPanics: the panic is the loop's own, but all sources are left.
func TestP602ALoopThatPanics(t *testing.T) {
	for _, lists := range someLists() {
		sources, seqs := watch(lists...)
		if len(modelMerge(lists)) == 0 {
			continue
		}
		fault := caught(func() {
			for range merge.Cursor(seqs...) {
				panic("the loop's")
			}
		})
		if fault != "the loop's" {
			t.Errorf("P602: a loop that panics panics with %v", fault)
		}
		leftAlone(t, sources, 1)
	}
}

// TestP602ASourceThatPanics: the panic comes to where the cursor is gone over, and all sources are left.
func TestP602ASourceThatPanics(t *testing.T) {
	lists := [][]api.Entry{row("a 1 x, c 1 x, e 1 x"), row("b 1 y, d 1 y")}
	for at := range 3 {
		bad := func(yield func(api.Entry) bool) {
			for _, e := range row("a 9 z, c 9 z, d 9 z")[:at] {
				if !yield(e) {
					return
				}
			}
			panic("the source's")
		}
		sources, seqs := watch(lists...)
		var told []api.Entry
		fault := caught(func() {
			for e := range merge.Cursor(seqs[0], bad, seqs[1]) {
				told = append(told, e)
			}
		})
		want := []string{"", "a 9 z", "a 9 z, a 1 x, b 1 y, c 9 z"}[at]
		if fault != "the source's" || show(told) != want {
			t.Errorf("P602: with a source that panics at %d a cursor tells %q, %v; want %q", at, show(told), fault, want)
		}
		leftAlone(t, sources[:1], 1)
		if w := sources[1]; w.begun != w.ended || *w.going != 0 {
			t.Errorf("P602: source 1 has begun %d times, and ended %d times", w.begun, w.ended)
		}
	}
}

// TestP602ASourceThatPanicsWhenItIsLeft asks that the other sources are left, too.
func TestP602ASourceThatPanicsWhenItIsLeft(t *testing.T) {
	bad := func(yield func(api.Entry) bool) {
		defer func() { panic("the source's") }()
		yield(value("a", 2, ""))
	}
	sources, seqs := watch(row("a 1 x, c 1 x"), row("a 9 y, d 1 y"))
	fault := caught(func() {
		for range merge.Cursor(seqs[0], bad, seqs[1]) {
			break
		}
	})
	if fault != "the source's" {
		t.Errorf("P602: a source that panics when it is left panics with %v", fault)
	}
	leftAlone(t, sources, 1)
}

func TestP602CursorsOfManySources(t *testing.T) {
	var lists [][]api.Entry
	for i := range 500 {
		lists = append(lists, row(strings.Repeat("k", i%7)+" 9 "+strconv.Itoa(i)+", x "+strconv.Itoa(i%50)+" "+strconv.Itoa(i)))
	}
	sources, seqs := watch(lists...)
	is(t, "P602: Cursor", slices.Collect(merge.Cursor(seqs...)), api.OK, show(modelMerge(lists)))
	leftAlone(t, sources, 1)
}
