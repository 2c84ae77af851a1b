package compact_test

import (
	"fmt"
	"math"
	"strings"
	"testing"

	"glacier/api"
	"glacier/compact"
)

// TestP902ShapesThatCheckRefuses: each is asked of a version that has much to do.
func TestP902ShapesThatCheckRefuses(t *testing.T) {
	v := tree("1 0 a c 5, 2 0 b f 5, 3 1 a z 5000")
	picks(t, v, compact.Shape{Zero: 2, Base: 10, Table: 1}, "0 of 1 2 3 bottom")
	for _, s := range []compact.Shape{
		{}, {0, 10, 1}, {-1, 10, 1}, {101, 10, 1}, {2, 0, 1}, {2, -1, 1}, {2, 1<<30 + 1, 1}, {2, 10, 0}, {2, 10, -1}, {2, 10, 1<<26 + 1},
		{math.MinInt, 10, 1}, {2, math.MinInt, 1}, {2, 10, math.MinInt},
	} {
		picks(t, v, s, "nothing")
	}
}

func TestP902NothingToDo(t *testing.T) {
	for _, s := range []compact.Shape{{1, 1, 1}, ten, {100, 1 << 30, 1 << 26}} {
		picks(t, api.Version{}, s, "nothing")
		picks(t, api.Version{Tables: []api.Table{}, Seq: 5, Next: 9, Wal: 3}, s, "nothing")
	}
	picks(t, tree("1 0 a c 5000"), ten, "nothing")
	picks(t, tree("1 0 a c 5000, 2 1 a c 10, 3 2 a c 100, 4 3 a c 1000, 5 4 a c 10000, 6 5 a c 100000, 7 6 a c 9000000"), ten, "nothing")
	picks(t, tree("1 1 a c 0, 2 2 a c 0"), compact.Shape{Zero: 1, Base: 1, Table: 1}, "nothing")
}

// zeros tells the text of n tables of level 0, from file 1 on.
func zeros(n int) string {
	var words []string
	for i := range n {
		words = append(words, fmt.Sprint(i+1, " 0 a c 5"))
	}
	return strings.Join(words, ", ")
}

func TestP902AsManyAsZero(t *testing.T) {
	for _, n := range []int{1, 2, 3, 7, 100} {
		var all []string
		for i := range n {
			all = append(all, fmt.Sprint(i+1))
		}
		want := "0 of " + strings.Join(all, " ") + " bottom"
		s := compact.Shape{Zero: n, Base: 10, Table: 1}
		picks(t, tree(zeros(n)), s, want)
		picks(t, tree(zeros(n-1)), s, "nothing")
		picks(t, tree(zeros(n)+", 901 1 d f 900"), s, want)
		more := strings.Replace(want, " bottom", fmt.Sprint(" ", n+1, " bottom"), 1)
		picks(t, tree(zeros(n+1)), s, more)
		// Those of other levels do not count.
		picks(t, tree(strings.TrimPrefix(zeros(n-1)+", 901 1 d f 4, 902 1 g h 5, 903 2 a c 99", ", ")), s, "nothing")
	}
}

func TestP902Level0(t *testing.T) {
	for _, c := range []struct{ tables, want string }{
		// With level 1: no shared Key, some, all.
		{"4 0 d f 1, 2 0 g k 1, 5 1 a c 1, 6 1 l m 1", "0 of 4 2 bottom"},
		{"4 0 d f 1, 2 0 g k 1, 5 1 a d 1, 6 1 l m 1", "0 of 4 2 5 bottom"},
		{"4 0 d f 1, 2 0 g k 1, 5 1 a c 1, 6 1 k m 1", "0 of 4 2 6 bottom"},
		{"4 0 d f 1, 2 0 g k 1, 9 1 a d 1, 6 1 e e 1, 1 1 h m 1", "0 of 4 2 9 6 1 bottom"},
		// What lies between two of level 0 is taken, too.
		{"4 0 a b 1, 2 0 y z 1, 5 1 c d 1, 3 1 m n 1", "0 of 4 2 5 3 bottom"},
		// The least First, the greatest Last need not be of the first table, of the last one.
		{"1 0 a z 1, 2 0 b c 1, 3 0 d e 1, 4 1 x y 1", "0 of 1 2 3 4 bottom"},
		{"1 0 a b 1, 2 0 a z 1, 3 0 d e 1, 4 1 x y 1", "0 of 1 2 3 4 bottom"},
		{"3 0 d e 1, 2 0 b c 1, 4 1 a b 1, 5 1 c d 1, 6 1 f f 1", "0 of 3 2 4 5 bottom"},
		// What comes of level 1 does not bring more of level 1, nor of level 0.
		{"1 0 d e 1, 2 0 e e 1, 3 1 a d 1, 4 1 e z 1, 5 2 0 0 1", "0 of 1 2 3 4 bottom"},
		// Level 0 goes ahead of those that have too much.
		{"1 0 d e 1, 2 0 e e 1, 3 1 a b 900, 4 2 a b 9000", "0 of 1 2 bottom"},
		{"1 0 d e 900, 3 1 a b 11, 4 2 a b 90", "1 of 3 4 bottom"},
	} {
		picks(t, tree(c.tables), ten, c.want)
	}
}

func TestP902LevelsAtTheirBound(t *testing.T) {
	for _, base := range []int{1, 7, 10, 1000, 1 << 30} {
		s := compact.Shape{Zero: 1, Base: base, Table: 1}
		bound := base
		for level := 1; level <= 5; level++ {
			at := func(n int, more ...api.Table) api.Version {
				return api.Version{Tables: append([]api.Table{tab(5, level, n, "a", "c")}, more...)}
			}
			here := fmt.Sprint(level, " of 5 bottom")
			picks(t, at(bound), s, "nothing")
			picks(t, at(bound+1), s, here)
			picks(t, at(bound-1), s, "nothing")
			picks(t, at(bound-1, tab(6, level, 1, "d", "e")), s, "nothing")
			picks(t, at(bound, tab(6, level, 1, "d", "e")), s, here)
			picks(t, at(bound, tab(6, level, 0, "d", "e")), s, "nothing")
			picks(t, at(bound, tab(6, level+1, 1, "d", "e")), s, "nothing")
			picks(t, at(bound-bound/2, tab(6, level, bound/2, "d", "e"), tab(7, level, 1, "f", "f")), s, here)
			bound *= 10
		}
	}
}

func TestP902Level6IsNotPicked(t *testing.T) {
	picks(t, tree("1 6 a c 1, 2 6 d e 1099511627776"), compact.Shape{Zero: 1, Base: 1, Table: 1}, "nothing")
	picks(t, tree("1 5 a c 10001, 2 6 b e 1099511627776, 3 6 f g 1"), compact.Shape{Zero: 1, Base: 1, Table: 1}, "5 of 1 2 bottom")
}

func TestP902TheGreatest(t *testing.T) {
	for _, c := range []struct{ tables, want string }{
		{"1 1 a b 5, 2 1 c d 6", "1 of 2 bottom"},
		{"1 1 a b 6, 2 1 c d 5", "1 of 1 bottom"},
		{"1 1 a b 3, 2 1 c d 6, 3 1 e f 5", "1 of 2 bottom"},
		{"9 1 a b 3, 7 1 c d 6, 5 1 e f 6, 3 1 g h 6", "1 of 7 bottom"},
		{"9 1 a b 6, 7 1 c d 6", "1 of 9 bottom"},
		{"9 1 a b 0, 7 1 c d 1, 6 1 e f 0, 5 1 g h 11, 4 1 i j 11, 3 1 k l 2", "1 of 5 bottom"},
		// What lies on other levels is no greater one.
		{"1 0 a b 99, 2 1 a b 5, 3 1 c d 7, 4 2 x z 100", "1 of 3 bottom"},
	} {
		picks(t, tree(c.tables), ten, c.want)
	}
}

func TestP902TheNextLevel(t *testing.T) {
	for _, c := range []struct{ tables, want string }{
		{"1 2 g k 101, 2 3 a f 1, 3 3 l z 1", "2 of 1 bottom"},
		{"1 2 g k 101, 2 3 a g 1, 3 3 l z 1", "2 of 1 2 bottom"},
		{"1 2 g k 101, 2 3 a f 1, 3 3 k z 1", "2 of 1 3 bottom"},
		{"1 2 g k 101, 9 3 a g 1, 8 3 h h 1, 7 3 j m 1, 6 3 n n 1", "2 of 1 9 8 7 bottom"},
		// From the First to the Last of the one that is taken, not of others of its level.
		{"5 2 a b 3, 1 2 g k 99, 4 2 x y 3, 2 3 a f 1, 3 3 l z 1", "2 of 1 bottom"},
		// Levels above take no part.
		{"6 0 g k 1, 5 1 g k 1, 1 2 g k 101, 2 3 h h 1", "2 of 1 2 bottom"},
	} {
		picks(t, tree(c.tables), ten, c.want)
	}
}

func TestP902SeveralThatHaveTooMuch(t *testing.T) {
	v := tree("1 1 a b 11, 2 2 a b 101, 3 3 a b 1001, 4 4 a b 10001, 5 5 a b 100001, 6 6 a b 1000001")
	for _, want := range []string{"1 of 1 2", "2 of 2 3", "3 of 3 4", "4 of 4 5", "5 of 5 6 bottom"} {
		picks(t, v, ten, want)
		v.Tables = v.Tables[1:]
	}
	picks(t, v, ten, "nothing")
}

func TestP902Bottom(t *testing.T) {
	for _, c := range []struct{ tables, want string }{
		// Level 0: the levels from 2 on count.
		{"1 0 d e 1, 2 0 f g 1, 3 2 a c 1, 4 2 h z 1", "0 of 1 2 bottom"},
		{"1 0 d e 1, 2 0 f g 1, 3 2 a d 1, 4 2 h z 1", "0 of 1 2"},
		{"1 0 d e 1, 2 0 f g 1, 3 2 a c 1, 4 2 g z 1", "0 of 1 2"},
		{"1 0 d e 1, 2 0 f g 1, 3 3 f f 1", "0 of 1 2"},
		{"1 0 d e 1, 2 0 f g 1, 3 4 f f 1", "0 of 1 2"},
		{"1 0 d e 1, 2 0 f g 1, 3 5 a z 1", "0 of 1 2"},
		{"1 0 d e 1, 2 0 f g 1, 3 6 e\x00 f 1", "0 of 1 2"},
		{"1 0 d e 1, 2 0 g g 1, 3 6 f f 1", "0 of 1 2"},
		// What lies at level 1 widens the stretch, though it shares no Key with what lies below.
		{"1 0 d e 1, 2 0 f g 1, 5 1 g m 1, 4 2 h k 1", "0 of 1 2 5"},
		{"1 0 d e 1, 2 0 f g 1, 5 1 b d 1, 4 2 a b 1", "0 of 1 2 5"},
		{"1 0 d e 1, 2 0 f g 1, 5 1 b d 1, 6 1 g m 1, 4 2 a a 1, 3 2 n z 1", "0 of 1 2 5 6 bottom"},
		{"1 0 d e 1, 2 0 f g 1, 6 1 h m 1, 4 2 h k 1", "0 of 1 2 bottom"},
		// Levels from 1 on: the levels from the next but one on count.
		{"1 1 d e 11, 3 3 a c 1, 4 3 f z 1", "1 of 1 bottom"},
		{"1 1 d e 11, 2 2 a d 1, 3 3 b b 1", "1 of 1 2"},
		{"1 1 d e 11, 2 2 a d 1, 3 4 a a 1", "1 of 1 2"},
		{"1 1 d e 11, 2 2 b d 1, 3 4 a a 1", "1 of 1 2 bottom"},
		{"1 2 d e 101, 3 4 e f 1", "2 of 1"},
		{"1 2 d e 101, 3 6 d d 1", "2 of 1"},
		{"1 3 d e 1001, 2 4 a z 1, 3 5 x y 1", "3 of 1 2"},
		{"1 4 d e 10001, 3 6 a d 1", "4 of 1"},
		{"1 4 d e 10001, 3 6 a c 1", "4 of 1 bottom"},
		{"1 5 d e 100001, 3 6 a d 1", "5 of 1 3 bottom"},
		// Levels above never count, nor does the rest of the two.
		{"7 0 d e 1, 8 1 d e 1, 1 2 d e 99, 9 2 k m 10, 3 3 a a 1, 4 3 l l 1", "2 of 1 bottom"},
	} {
		picks(t, tree(c.tables), ten, c.want)
	}
}

// TestP902WhatFalls: tables whose First is above their Last count by the words, as all others.
func TestP902WhatFalls(t *testing.T) {
	picks(t, tree("1 0 k c 1, 2 0 m d 1, 3 1 e h 1, 4 1 a b 1, 5 2 l l 1"), ten, "0 of 1 2 bottom")
	picks(t, tree("1 0 k c 1, 2 0 m d 1, 3 1 a z 1, 5 2 l l 1"), ten, "0 of 1 2 3")
	picks(t, tree("1 1 k c 11, 2 2 d h 1, 3 2 a z 1, 4 2 c k 1"), ten, "1 of 1 3 4 bottom")
}

func TestP902GreatSizes(t *testing.T) {
	one := compact.Shape{Zero: 1, Base: 1, Table: 1}
	most := compact.Shape{Zero: 1, Base: 1 << 30, Table: 1}
	great := func(level int, sizes ...int) api.Version {
		var v api.Version
		for i, n := range sizes {
			v.Tables = append(v.Tables, tab(i+1, level, n, fmt.Sprint("k", i), fmt.Sprint("k", i)))
		}
		return v
	}
	for level := 1; level <= 5; level++ {
		for _, s := range []compact.Shape{one, most} {
			first, second, third := fmt.Sprint(level, " of 1 bottom"), fmt.Sprint(level, " of 2 bottom"), fmt.Sprint(level, " of 3 bottom")
			picks(t, great(level, greatestInt), s, first)
			picks(t, great(level, greatestInt-1, greatestInt), s, second)
			picks(t, great(level, greatestInt, 1), s, first)
			picks(t, great(level, greatestInt, greatestInt), s, first)
			picks(t, great(level, greatestInt, greatestInt, 2), s, first)
			picks(t, great(level, greatestInt, greatestInt, greatestInt), s, first)
			picks(t, great(level, 1, greatestInt/2+1, greatestInt, greatestInt/2+1), s, third)
			picks(t, great(level, 1<<62, 1<<62, 1<<62, 1<<62), s, first)
			picks(t, great(level, 1<<62, 1<<62, 1<<62, 1<<62, 1), s, first)
			picks(t, great(level, 1<<43, 1<<43+1), s, second)
		}
	}
	picks(t, great(6, greatestInt, greatestInt), one, "nothing")
	// The greatest bound there is, just kept.
	bound := 1 << 30 * 10000
	picks(t, great(5, bound/2, bound-bound/2), most, "nothing")
	picks(t, great(5, bound/2, bound-bound/2+1), most, "5 of 2 bottom")
}

// TestP902SizesBelow0: there are none such by manifest; together they are what they are.
func TestP902SizesBelow0(t *testing.T) {
	picks(t, tree("1 1 a b -5, 2 1 c d 15"), ten, "nothing")
	picks(t, tree("1 1 a b -5, 2 1 c d 16"), ten, "1 of 2 bottom")
	picks(t, tree("1 1 c d 16, 2 1 e f -5, 3 1 g h -1"), ten, "nothing")
	picks(t, tree("1 1 a b -5"), ten, "nothing")
	picks(t, tree("1 1 a b -5, 2 2 c d 101"), ten, "2 of 2 bottom")
	picks(t, tree("1 1 a b -16, 2 1 c d 15, 3 2 e f 101"), ten, "2 of 3 bottom")
	v := tree("1 1 a b 0, 2 1 c d 11, 3 1 e f 0")
	v.Tables[0].Size, v.Tables[2].Size = math.MinInt, math.MaxInt
	picks(t, v, ten, "nothing")
	v.Tables[1].Size = 12
	picks(t, v, ten, "1 of 3 bottom")
}

func TestP902Move(t *testing.T) {
	for _, c := range []struct {
		j    compact.Job
		want bool
	}{
		{compact.Job{Level: 1, Inputs: []int{7}}, true},
		{compact.Job{Level: 1, Inputs: []int{7}, Bottom: true}, true},
		{compact.Job{Level: 5, Inputs: []int{0}, Bottom: true}, true},
		{compact.Job{Level: 0, Inputs: []int{7}}, false},
		{compact.Job{Level: 0, Inputs: []int{7}, Bottom: true}, false},
		{compact.Job{Level: -1, Inputs: []int{7}}, false},
		{compact.Job{Level: 1, Inputs: []int{7, 8}}, false},
		{compact.Job{Level: 5, Inputs: []int{7, 7}, Bottom: true}, false},
		{compact.Job{Level: 0, Inputs: []int{7, 8, 9}}, false},
		{compact.Job{Level: 1}, false},
		{compact.Job{Level: 1, Inputs: []int{}}, false},
		{compact.Job{}, false},
	} {
		for _, v := range []api.Version{{}, tree("7 1 a c 11"), tree("1 0 a b 1, 7 1 a c 11, 8 2 a b 1")} {
			if got := compact.Move(v, c.j); got != c.want {
				t.Errorf("P902: Move(%v, %v) tells %v; want %v", v, c.j, got, c.want)
			}
		}
	}
}

// TestP902MoveOfWhatPickTells asks Move of jobs as Pick tells them.
func TestP902MoveOfWhatPickTells(t *testing.T) {
	for _, c := range []struct {
		tables, job string
		want        bool
	}{
		{"1 1 a c 11", "1 of 1 bottom", true},
		{"1 1 a c 11, 2 2 d e 1, 3 3 b b 1", "1 of 1", true},
		{"1 1 a c 11, 2 2 c e 1", "1 of 1 2 bottom", false},
		{"1 5 a c 100001, 2 6 d e 1", "5 of 1 bottom", true},
	} {
		v := tree(c.tables)
		picks(t, v, ten, c.job)
		if j, _ := compact.Pick(v, ten); compact.Move(v, j) != c.want {
			t.Errorf("P902: Move of %q tells %v; want %v", c.job, !c.want, c.want)
		}
	}
	v := tree("1 0 a c 5")
	if j, is := compact.Pick(v, compact.Shape{Zero: 1, Base: 1, Table: 1}); !is || compact.Move(v, j) {
		t.Errorf("P902: Move of %v, %v of level 0 tells true", j, is)
	}
}
