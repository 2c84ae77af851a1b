package compact_test

import (
	"math"
	"slices"
	"testing"

	"glacier/api"
	"glacier/compact"
)

func TestP901Check(t *testing.T) {
	right := compact.Shape{Zero: 4, Base: 1000, Table: 100}
	for _, c := range []struct {
		most int
		with func(n int) compact.Shape
	}{
		{100, func(n int) compact.Shape { return compact.Shape{Zero: n, Base: right.Base, Table: right.Table} }},
		{1 << 30, func(n int) compact.Shape { return compact.Shape{Zero: right.Zero, Base: n, Table: right.Table} }},
		{1 << 26, func(n int) compact.Shape { return compact.Shape{Zero: right.Zero, Base: right.Base, Table: n} }},
	} {
		for _, n := range []int{1, 2, 99, c.most - 1, c.most} {
			if err := compact.Check(c.with(n)); err != api.OK {
				t.Errorf("P901: Check(%v) tells %v; want ok", c.with(n), err)
			}
		}
		for _, n := range []int{0, -1, math.MinInt, c.most + 1, greatestInt} {
			if err := compact.Check(c.with(n)); err != api.ErrArg {
				t.Errorf("P901: Check(%v) tells %v; want %v", c.with(n), err, api.ErrArg)
			}
		}
	}
}

func TestP901CheckOfAllAtOnce(t *testing.T) {
	for _, s := range []compact.Shape{{1, 1, 1}, {100, 1 << 30, 1 << 26}} {
		if err := compact.Check(s); err != api.OK {
			t.Errorf("P901: Check(%v) tells %v; want ok", s, err)
		}
	}
	for _, s := range []compact.Shape{{}, {101, 1<<30 + 1, 1<<26 + 1}, {-4, -1000, -100}, {0, 1, 0}, {1, 0, 0}} {
		if err := compact.Check(s); err != api.ErrArg {
			t.Errorf("P901: Check(%v) tells %v; want %v", s, err, api.ErrArg)
		}
	}
}

// asOver asks which tables of a level share a Key with a stretch.
func asOver(t *testing.T, v api.Version, level int, first, last, want string) {
	t.Helper()
	if got := files(compact.Over(v, level, first, last)); got != want {
		t.Errorf("P901: Over(%v, %d, %q, %q) tells %q; want %q", v.Tables, level, first, last, got, want)
	}
}

func TestP901Over(t *testing.T) {
	v := tree("9 0 a z 1, 7 1 c e 1, 8 1 g g 1, 1 1 k m 1, 6 3 d l 1")
	for _, c := range []struct{ first, last, want string }{
		{"a", "z", "7 8 1"},
		{"", "\xFF", "7 8 1"},
		{"d", "d", "7"},
		{"c", "e", "7"},
		{"d", "g", "7 8"},
		{"g", "k", "8 1"},
		// Stretches that touch a First, a Last, or just do not.
		{"a", "c", "7"},
		{"a", "b\xFF", ""},
		{"e", "f", "7"},
		{"e\x00", "f", ""},
		{"f", "g", "8"},
		{"f", "f\xFF\xFF", ""},
		{"g", "g", "8"},
		{"g\x00", "j", ""},
		{"m", "z", "1"},
		{"m\x00", "z", ""},
		{"l", "z", "1"},
		// Stretches ahead of all, between two, behind all.
		{"", "", ""},
		{"a", "b", ""},
		{"h", "i", ""},
		{"n", "z", ""},
	} {
		asOver(t, v, 1, c.first, c.last, c.want)
	}
}

func TestP901OverOfLevels(t *testing.T) {
	v := tree("9 0 a z 1, 5 0 b c 1, 7 1 c e 1, 6 3 d l 1, 4 6 a a 1")
	for level, want := range []string{"9 5", "7", "", "6", "", "", "4", ""} {
		asOver(t, v, level, "", "z", want)
	}
	for _, level := range []int{-1, 7, math.MinInt, greatestInt} {
		asOver(t, v, level, "", "z", "")
	}
	asOver(t, api.Version{}, 0, "", "z", "")
	asOver(t, api.Version{Tables: []api.Table{}}, 1, "", "z", "")
}

// TestP901OverAtLevel0: there tables may share Keys, and hold one another.
func TestP901OverAtLevel0(t *testing.T) {
	v := tree("3 0 a z 1, 5 0 b c 1, 2 0 c c 1, 4 0 c k 1, 1 0 d d 1")
	asOver(t, v, 0, "c", "c", "3 5 2 4")
	asOver(t, v, 0, "d", "e", "3 4 1")
	asOver(t, v, 0, "l", "m", "3")
	asOver(t, v, 0, "a", "a", "3")
	asOver(t, v, 0, "zz", "zz", "")
}

// TestP901OverOfWhatFalls: First to Last is taken as it stands, also where it is first above last.
func TestP901OverOfWhatFalls(t *testing.T) {
	v := tree("1 1 a c 1, 2 1 d f 1, 3 1 b k 1")
	asOver(t, v, 1, "e", "b", "3")
	asOver(t, v, 1, "f", "d", "2 3")
	asOver(t, v, 1, "f\x00", "d", "3")
	asOver(t, v, 1, "c", "a", "1")
	asOver(t, v, 1, "z", "", "")
	falls := tree("1 1 k b 1, 2 1 z a 1, 3 1 d c 1")
	asOver(t, falls, 1, "a", "z", "1 2 3")
	asOver(t, falls, 1, "c", "d", "3")
	asOver(t, falls, 1, "b", "k", "1 3")
	asOver(t, falls, 1, "b\x00", "k", "3")
	asOver(t, falls, 1, "b", "j", "3")
	asOver(t, falls, 1, "c", "c", "")
	asOver(t, falls, 1, "k", "b", "")
	asOver(t, falls, 1, "a", "y", "1 3")
}

func TestP901OverOfKeysWithoutBytes(t *testing.T) {
	v := api.Version{Tables: []api.Table{tab(1, 2, 1, "", ""), tab(2, 2, 1, "\x00", "\x7F"), tab(3, 2, 1, "\x80", "\xFF")}}
	asOver(t, v, 2, "", "", "1")
	asOver(t, v, 2, "", "\x00", "1 2")
	asOver(t, v, 2, "\x00", "\x00", "2")
	asOver(t, v, 2, "\x7F", "\x80", "2 3")
	asOver(t, v, 2, "\x7F\xFF", "\x7F\xFF", "")
	asOver(t, v, 2, "\xFF", "\xFF\xFF", "3")
}

func TestP901OverTellsWholeTables(t *testing.T) {
	l := []api.Table{tab(5, 2, 17, "a", "bcd"), tab(0, 2, 0, "c", "c"), tab(1<<40, 2, 1<<40, "d", "d")}
	if got := compact.Over(api.Version{Tables: l, Seq: 9, Next: 8, Wal: 7}, 2, "b", "d"); !slices.Equal(got, l) {
		t.Errorf("P901: Over tells %v; want %v", got, l)
	}
}
