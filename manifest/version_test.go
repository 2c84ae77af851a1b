package manifest_test

import (
	"math"
	"slices"
	"strconv"
	"strings"
	"testing"

	"glacier/api"
	"glacier/manifest"
)

func TestP802Compare(t *testing.T) {
	// In order; each is below all that follow.
	rising := []api.Table{
		tab(0, math.MinInt, "", ""),
		tab(9, -1, "z", "z"),
		tab(math.MinInt, 0, "", ""),
		tab(-1, 0, "", ""),
		tab(0, 0, "", ""),
		tab(math.MaxInt, 0, "", ""),
		tab(7, 0, "\x00", ""),
		tab(7, 0, "a", ""),
		tab(8, 0, "a", ""),
		tab(2, 0, "aa", ""),
		tab(1, 0, "b", ""),
		tab(1, 0, "\x7F", ""),
		tab(0, 0, "\x80", ""),
		tab(0, 0, "\xFF", ""),
		tab(1, 1, "", ""),
		tab(0, 1, "a", ""),
		tab(-5, 6, "a", ""),
		tab(0, math.MaxInt, "", ""),
	}
	for i, a := range rising {
		for j, b := range rising {
			want := 0
			if i < j {
				want = -1
			}
			if i > j {
				want = 1
			}
			for _, x := range []api.Table{a, {File: a.File, Level: a.Level, First: a.First, Last: "other", Size: 99}} {
				if c := manifest.Compare(x, b); c != want {
					t.Errorf("P802: Compare(%v, %v): %d; want %d", x, b, c, want)
				}
			}
		}
	}
}

// applied asks what Apply answers; of an error, that there is nothing beside it.
func applied(t *testing.T, v api.Version, want api.Version, wantErr api.Errno, edits ...api.Edit) {
	t.Helper()
	got, err := manifest.Apply(v, edits...)
	if err != wantErr || !same(got, want) {
		t.Errorf("P802: Apply(%.300v, %.300v): %.300v, %v; want %.300v, %v", v, edits, got, err, want, wantErr)
	}
}

// refuses asks that Apply answers an error.
func refuses(t *testing.T, v api.Version, want api.Errno, edits ...api.Edit) {
	t.Helper()
	applied(t, v, api.Version{}, want, edits...)
}

func TestP802TheExample(t *testing.T) {
	v := version(t, api.Edit{Add: []api.Table{tab(1, 1, "a", "c")}, Next: 2})
	if !same(v, api.Version{Tables: []api.Table{tab(1, 1, "a", "c")}, Next: 2}) {
		t.Errorf("P802: %v", v)
	}
	refuses(t, v, api.ErrOrder, add(tab(2, 1, "c", "d")))
	applied(t, v, api.Version{Tables: []api.Table{tab(2, 0, "c", "d"), tab(1, 1, "a", "c")}, Next: 2}, api.OK, add(tab(2, 0, "c", "d")))
	refuses(t, v, api.ErrNone, drop(7))
}

func TestP802WithoutEdits(t *testing.T) {
	for _, v := range []api.Version{{}, version(t, some()...), {Seq: 1, Next: 2, Wal: 3}, {Seq: 1, Next: -2, Wal: -3}} {
		applied(t, v, v, api.OK)
		applied(t, v, v, api.OK, api.Edit{})
		applied(t, v, v, api.OK, api.Edit{Add: []api.Table{}, Drop: []int{}}, api.Edit{})
	}
}

func TestP802Drop(t *testing.T) {
	a, b, c := tab(1, 0, "a", "z"), tab(2, 0, "b", "y"), tab(3, 1, "c", "x")
	v := version(t, add(a, b, c), api.Edit{Seq: 4, Next: 5, Wal: 6})
	left := func(l ...api.Table) api.Version { return api.Version{Tables: l, Seq: 4, Next: 5, Wal: 6} }
	applied(t, v, left(b, c), api.OK, drop(1))
	applied(t, v, left(a, c), api.OK, drop(2))
	applied(t, v, left(b), api.OK, drop(3, 1))
	applied(t, v, left(), api.OK, drop(2, 3, 1))
	applied(t, v, left(), api.OK, drop(2), drop(3), drop(1))
	for _, files := range [][]int{{0}, {4}, {-1}, {math.MinInt}, {math.MaxInt}, {1<<32 + 1}, {1, 1}, {1, 2, 1}, {4, 4}, {1, 4}, {4, 1}, {3, 2, 1, 3}} {
		refuses(t, v, api.ErrNone, drop(files...))
		refuses(t, api.Version{}, api.ErrNone, drop(files...))
	}
	refuses(t, v, api.ErrNone, drop(1), drop(1))
	// A file that the edit itself adds is not there yet; one that an edit before added is.
	refuses(t, v, api.ErrNone, api.Edit{Drop: []int{7}, Add: []api.Table{tab(7, 0, "", "")}})
	applied(t, v, v, api.OK, add(tab(7, 0, "", "")), drop(7))
	refuses(t, v, api.ErrNone, drop(7), add(tab(7, 0, "", "")))
	// Where somebody's version has tables of one file, all of them go.
	applied(t, api.Version{Tables: []api.Table{a, a, b}}, api.Version{Tables: []api.Table{b}}, api.OK, drop(1))
}

func TestP802AddOfFiles(t *testing.T) {
	v := version(t, add(tab(1, 0, "a", "b"), tab(2, 1, "a", "b"), tab(1<<40, 2, "a", "b")))
	for _, c := range []struct {
		e    api.Edit
		want api.Errno
	}{
		{add(tab(0, 0, "a", "b")), api.OK},
		{add(tab(3, 0, "a", "b"), tab(4, 0, "a", "b")), api.OK},
		{add(tab(1<<40-1, 0, "a", "b")), api.OK},
		{add(tab(-1, 0, "a", "b")), api.ErrArg},
		{add(tab(math.MinInt, 0, "a", "b")), api.ErrArg},
		{add(tab(1<<40+1, 0, "a", "b")), api.ErrArg},
		{add(tab(math.MaxInt, 0, "a", "b")), api.ErrArg},
		{add(tab(1, 0, "a", "b")), api.ErrArg},
		{add(tab(2, 3, "x", "y")), api.ErrArg},
		{add(tab(1<<40, 3, "x", "y")), api.ErrArg},
		{add(tab(3, 0, "a", "b"), tab(3, 0, "a", "b")), api.ErrArg},
		{add(tab(3, 0, "a", "b"), tab(4, 0, "a", "b"), tab(3, 4, "c", "d")), api.ErrArg},
		{add(tab(3, 0, "a", "b"), tab(1, 0, "a", "b")), api.ErrArg},
		{api.Edit{Drop: []int{1}, Add: []api.Table{tab(1, 0, "c", "d")}}, api.OK},
		{api.Edit{Drop: []int{1, 2}, Add: []api.Table{tab(2, 0, "c", "d"), tab(1, 1, "c", "d")}}, api.OK},
		{api.Edit{Drop: []int{1}, Add: []api.Table{tab(1, 0, "c", "d"), tab(1, 0, "c", "d")}}, api.ErrArg},
		{api.Edit{Drop: []int{1}, Add: []api.Table{tab(2, 0, "c", "d")}}, api.ErrArg},
	} {
		if c.want != api.OK {
			refuses(t, v, c.want, c.e)
			continue
		}
		want, _ := apply(v, c.e)
		applied(t, v, want, api.OK, c.e)
	}
	refuses(t, v, api.ErrArg, add(tab(3, 0, "a", "b")), add(tab(3, 0, "a", "b")))
	applied(t, v, v, api.OK, add(tab(3, 0, "a", "b")), drop(3), add(tab(3, 0, "a", "b")), drop(3))
}

func TestP802AddOfOneTable(t *testing.T) {
	for _, c := range []struct {
		table api.Table
		want  api.Errno
	}{
		{api.Table{}, api.OK},
		{api.Table{Level: 6}, api.OK},
		{api.Table{Level: 7}, api.ErrArg},
		{api.Table{Level: -1}, api.ErrArg},
		{api.Table{Level: math.MaxInt}, api.ErrArg},
		{api.Table{Level: math.MinInt}, api.ErrArg},
		{api.Table{First: "a", Last: "a"}, api.OK},
		{api.Table{First: "a", Last: "aa"}, api.OK},
		{api.Table{First: "", Last: "\x00"}, api.OK},
		{api.Table{First: "\x7F", Last: "\x80"}, api.OK},
		{api.Table{First: "b", Last: "a"}, api.ErrArg},
		{api.Table{First: "aa", Last: "a"}, api.ErrArg},
		{api.Table{First: "\x00", Last: ""}, api.ErrArg},
		{api.Table{First: "\x80", Last: "\x7F"}, api.ErrArg},
		{api.Table{First: "b", Last: "a", Level: 3}, api.ErrArg},
		{api.Table{Size: 1}, api.OK},
		{api.Table{Size: 1 << 40}, api.OK},
		{api.Table{Size: 1<<40 + 1}, api.ErrArg},
		{api.Table{Size: -1}, api.ErrArg},
		{api.Table{Size: math.MaxInt}, api.ErrArg},
		{api.Table{Size: math.MinInt}, api.ErrArg},
	} {
		if c.want == api.OK {
			applied(t, api.Version{}, api.Version{Tables: []api.Table{c.table}}, api.OK, add(c.table))
			continue
		}
		refuses(t, api.Version{}, c.want, add(c.table))
		refuses(t, api.Version{}, c.want, add(tab(8, 0, "a", "b"), c.table, tab(9, 0, "a", "b")))
	}
}

func TestP802Most(t *testing.T) {
	const most = 1 << 16
	e := many(most, 0)
	v := version(t, e)
	if len(v.Tables) != most || !slices.IsSortedFunc(v.Tables, manifest.Compare) {
		t.Errorf("P802: %d tables, in order: %v", len(v.Tables), slices.IsSortedFunc(v.Tables, manifest.Compare))
	}
	more := tab(most, 0, "", "")
	refuses(t, v, api.ErrArg, add(more))
	refuses(t, api.Version{}, api.ErrArg, many(most+1, 0))
	refuses(t, version(t, add(more)), api.ErrArg, e)
	for _, c := range []struct {
		edits []api.Edit
		want  api.Errno
	}{
		{[]api.Edit{{Drop: []int{5}, Add: []api.Table{more}}}, api.OK},
		{[]api.Edit{drop(5), add(more)}, api.OK},
		{[]api.Edit{add(more), drop(5)}, api.ErrArg},
		{[]api.Edit{{Drop: []int{5}, Add: []api.Table{more, tab(5, 0, "", "")}}}, api.ErrArg},
		{[]api.Edit{{Seq: 1}}, api.OK},
	} {
		got, err := manifest.Apply(v, c.edits...)
		if err != c.want || err == api.OK && len(got.Tables) != most || err != api.OK && !same(got, api.Version{}) {
			t.Errorf("P802: Apply of %d edits to the most tables: %d, %v; want %v", len(c.edits), len(got.Tables), err, c.want)
		}
	}
	// Of somebody's version that has too many there would be too many, too.
	v.Tables = append(v.Tables, tab(most, 7, "", ""))
	refuses(t, v, api.ErrArg, api.Edit{})
	if got, err := manifest.Apply(v, drop(0)); err != api.OK || len(got.Tables) != most {
		t.Errorf("P802: %d, %v; want ok", len(got.Tables), err)
	}
}

func TestP802SharedKeys(t *testing.T) {
	for _, c := range []struct {
		a, b   string // First, a blank, Last
		shares bool
	}{
		{"a c", "d e", false}, {"a c", "c d", true}, {"a c", "b b", true}, {"a c", "a c", true}, {"a c", "a a", true}, {"a c", "c c", true},
		{"b c", "a a", false}, {"b c", "a b", true}, {"b c", "a d", true}, {"a b", "b\x00 c", false}, {"a b\x00", "b\x00 c", true}, {"a b", "b c", true},
		{" ", " ", true}, {" a", "\x00 \x00", true}, {" ", "\x00 a", false}, {"a \x7F", "\x80 \xFF", false}, {"a \x80", "\x80 \xFF", true}, {" \xFF\xFF", "m n", true},
	} {
		for level := range 7 {
			a, b := keys(1, level, c.a), keys(2, level, c.b)
			want := api.OK
			if c.shares && level > 0 {
				want = api.ErrOrder
			}
			for _, edits := range [][]api.Edit{{add(a, b)}, {add(b, a)}, {add(a), add(b)}, {add(b), add(a)}, {add(a), {}, add(b), {}}} {
				v, err := manifest.Apply(api.Version{}, edits...)
				if err != want || err == api.OK && len(v.Tables) != 2 || err != api.OK && !same(v, api.Version{}) {
					t.Errorf("P802: %q and %q on level %d: %v, %v; want %v", c.a, c.b, level, v, err, want)
				}
			}
			// On other levels they stand beside one another; and what is dropped shares nothing.
			b.Level = (level + 1) % 7
			if _, err := manifest.Apply(api.Version{}, add(a, b)); err != api.OK {
				t.Errorf("P802: %q and %q on levels %d and %d: %v", c.a, c.b, a.Level, b.Level, err)
			}
			b.Level = level
			if _, err := manifest.Apply(api.Version{}, add(a), api.Edit{Drop: []int{1}, Add: []api.Table{b}}); err != api.OK {
				t.Errorf("P802: %q in place of %q on level %d: %v", c.b, c.a, level, err)
			}
		}
	}
}

// keys is a table of a First and a Last that are told as one text, with a blank between.
func keys(file, level int, span string) api.Table {
	first, last, _ := strings.Cut(span, " ")
	return tab(file, level, first, last)
}

func TestP802SharedKeysAmongMany(t *testing.T) {
	var e api.Edit
	for i := range 50 {
		key := strconv.Itoa(10 + i)
		e.Add = append(e.Add, tab(i, 1, key, key+"m"))
	}
	v := version(t, e)
	for i := range 50 {
		key := strconv.Itoa(10 + i)
		refuses(t, v, api.ErrOrder, add(tab(99, 1, key+"l", key+"x")))
		refuses(t, v, api.ErrOrder, add(tab(99, 1, key+"m", key+"m")))
		refuses(t, v, api.ErrOrder, add(tab(99, 1, "0", key)))
		refuses(t, v, api.ErrOrder, add(tab(99, 1, key+"a", "z")))
		want := api.Version{Tables: slices.Insert(slices.Clone(v.Tables), i+1, tab(99, 1, key+"n", key+"z"))}
		applied(t, v, want, api.OK, add(tab(99, 1, key+"n", key+"z")))
	}
}

// TestP802VersionsOfOthersMaking are such as no edits make.
func TestP802VersionsOfOthersMaking(t *testing.T) {
	a, b, c := tab(1, 1, "a", "b"), tab(2, 1, "c", "d"), tab(3, 0, "x", "y")
	applied(t, api.Version{Tables: []api.Table{b, a, c}}, api.Version{Tables: []api.Table{c, a, b}}, api.OK, api.Edit{})
	applied(t, api.Version{Tables: []api.Table{b, a, c}}, api.Version{Tables: []api.Table{b, a, c}}, api.OK)
	refuses(t, api.Version{Tables: []api.Table{b, a, b}}, api.ErrOrder, api.Edit{})
	refuses(t, api.Version{Tables: []api.Table{tab(1, 7, "a", "c"), tab(2, 7, "b", "d")}}, api.ErrOrder, api.Edit{})
	below := []api.Table{tab(1, -1, "a", "c"), tab(2, -1, "b", "d")}
	applied(t, api.Version{Tables: below}, api.Version{Tables: below}, api.OK, api.Edit{})
	// First above Last: there is no Key from the one to the other.
	none := []api.Table{tab(1, 1, "a", "c"), tab(2, 1, "b", "a"), tab(3, 1, "d", "e")}
	applied(t, api.Version{Tables: none}, api.Version{Tables: none}, api.OK, api.Edit{})
	refuses(t, api.Version{Tables: none}, api.ErrOrder, add(tab(4, 1, "c", "c")))
	odd := api.Version{Tables: []api.Table{{File: -1, Level: 9, Size: -5}}, Seq: 1, Next: -9, Wal: math.MaxInt}
	applied(t, odd, odd, api.OK, api.Edit{})
	applied(t, odd, api.Version{Seq: 1, Next: -3, Wal: math.MaxInt}, api.OK, api.Edit{Drop: []int{-1}, Next: -3})
	refuses(t, odd, api.ErrArg, api.Edit{Next: -10})
	refuses(t, odd, api.ErrArg, api.Edit{Wal: math.MaxInt})
}

func TestP802Numbers(t *testing.T) {
	v := version(t, api.Edit{Seq: 10, Next: 20, Wal: 30, Add: []api.Table{tab(1, 0, "a", "b")}})
	for _, c := range []struct {
		e              api.Edit
		seq, next, wal int
		want           api.Errno
	}{
		{api.Edit{}, 10, 20, 30, api.OK},
		{api.Edit{Seq: 10, Next: 20, Wal: 30}, 10, 20, 30, api.OK},
		{api.Edit{Seq: 11, Next: 21, Wal: 31}, 11, 21, 31, api.OK},
		{api.Edit{Seq: 11}, 11, 20, 30, api.OK},
		{api.Edit{Next: 21}, 10, 21, 30, api.OK},
		{api.Edit{Wal: 31}, 10, 20, 31, api.OK},
		{api.Edit{Seq: 9}, 0, 0, 0, api.ErrArg},
		{api.Edit{Seq: 1}, 0, 0, 0, api.ErrArg},
		{api.Edit{Next: 19}, 0, 0, 0, api.ErrArg},
		{api.Edit{Next: 1}, 0, 0, 0, api.ErrArg},
		{api.Edit{Next: -1}, 0, 0, 0, api.ErrArg},
		{api.Edit{Next: math.MinInt}, 0, 0, 0, api.ErrArg},
		{api.Edit{Wal: 29}, 0, 0, 0, api.ErrArg},
		{api.Edit{Wal: -1}, 0, 0, 0, api.ErrArg},
		{api.Edit{Wal: math.MinInt}, 0, 0, 0, api.ErrArg},
		{api.Edit{Seq: 11, Next: 21, Wal: 29}, 0, 0, 0, api.ErrArg},
		{api.Edit{Seq: math.MaxInt64}, math.MaxInt64, 20, 30, api.OK},
		{api.Edit{Next: 1 << 40}, 10, 1 << 40, 30, api.OK},
		{api.Edit{Wal: 1 << 40}, 10, 20, 1 << 40, api.OK},
		{api.Edit{Next: 1<<40 + 1}, 0, 0, 0, api.ErrArg},
		{api.Edit{Wal: 1<<40 + 1}, 0, 0, 0, api.ErrArg},
		{api.Edit{Next: math.MaxInt}, 0, 0, 0, api.ErrArg},
		{api.Edit{Wal: math.MaxInt}, 0, 0, 0, api.ErrArg},
	} {
		if c.want != api.OK {
			refuses(t, v, c.want, c.e)
			continue
		}
		applied(t, v, api.Version{Tables: v.Tables, Seq: uint64(c.seq), Next: c.next, Wal: c.wal}, api.OK, c.e)
	}
	applied(t, v, api.Version{Tables: v.Tables, Seq: math.MaxUint64, Next: 20, Wal: 30}, api.OK, api.Edit{Seq: math.MaxUint64}, api.Edit{})
	refuses(t, v, api.ErrArg, api.Edit{Seq: math.MaxUint64}, api.Edit{Seq: math.MaxUint64 - 1})
	refuses(t, api.Version{}, api.ErrArg, api.Edit{Next: -1})
	refuses(t, api.Version{}, api.ErrArg, api.Edit{Wal: -1})
	refuses(t, v, api.ErrArg, api.Edit{Next: 25}, api.Edit{Next: 24})
	applied(t, v, api.Version{Tables: v.Tables, Seq: 10, Next: 26, Wal: 30}, api.OK, api.Edit{Next: 25}, api.Edit{Next: 26})
}

func TestP802WhichErrorIsTold(t *testing.T) {
	v := version(t, api.Edit{Seq: 10, Next: 20, Add: []api.Table{tab(1, 1, "a", "c")}})
	none, arg, order, below := drop(9), add(tab(-1, 0, "", "")), add(tab(2, 1, "b", "d")), api.Edit{Next: 19}
	both := func(l ...api.Edit) api.Edit {
		var e api.Edit
		for _, x := range l {
			e.Add, e.Drop, e.Next = append(e.Add, x.Add...), append(e.Drop, x.Drop...), e.Next+x.Next
		}
		return e
	}
	for _, c := range []struct {
		edits []api.Edit
		want  api.Errno
	}{
		{[]api.Edit{both(none, arg, order, below)}, api.ErrNone},
		{[]api.Edit{both(none, arg)}, api.ErrNone},
		{[]api.Edit{both(none, order)}, api.ErrNone},
		{[]api.Edit{both(none, below)}, api.ErrNone},
		{[]api.Edit{both(arg, order, below)}, api.ErrArg},
		{[]api.Edit{both(order, arg)}, api.ErrArg},
		{[]api.Edit{both(order, below)}, api.ErrOrder},
		{[]api.Edit{below}, api.ErrArg},
		{[]api.Edit{{}, below, none}, api.ErrArg},
		{[]api.Edit{order, none}, api.ErrOrder},
		{[]api.Edit{order, arg}, api.ErrOrder},
		{[]api.Edit{arg, none}, api.ErrArg},
		{[]api.Edit{none, arg}, api.ErrNone},
		{[]api.Edit{{Seq: 11}, none, arg, order}, api.ErrNone},
		{[]api.Edit{{Seq: 11}, order, none}, api.ErrOrder},
	} {
		refuses(t, v, c.want, c.edits...)
	}
}

// TestP802ManyEdits adds and drops, one behind the other.
func TestP802ManyEdits(t *testing.T) {
	var edits []api.Edit
	var want api.Version
	for i := range 300 {
		key := strconv.Itoa(1000 + (i*77)%300)
		edits = append(edits, api.Edit{Add: []api.Table{tab(i, i%7, key, key)}, Next: i + 1})
		want.Tables = append(want.Tables, tab(i, i%7, key, key))
	}
	want.Next = 300
	slices.SortFunc(want.Tables, manifest.Compare)
	applied(t, api.Version{}, want, api.OK, edits...)
	for i := range 300 {
		edits = append(edits, drop((i*91)%300))
	}
	applied(t, api.Version{}, api.Version{Next: 300}, api.OK, edits...)
}
