package manifest

import (
	"cmp"
	"slices"
	"strings"

	"glacier/api"
)

const maxLevel = 6

// Apply makes a version; Compare puts tables in order.
func Apply(v api.Version, edits ...api.Edit) (api.Version, api.Errno) {
	v.Tables = own(v.Tables)
	for _, e := range edits {
		made, err := next(v, e)
		if err != api.OK {
			return api.Version{}, err
		}
		v = made
	}
	return v, api.OK
}

func Compare(a, b api.Table) int {
	return cmp.Or(cmp.Compare(a.Level, b.Level), cmp.Compare(a.First, b.First), cmp.Compare(a.File, b.File))
}

// next tells the version that an edit makes of one, which stays as it is.
func next(v api.Version, e api.Edit) (api.Version, api.Errno) {
	left, is := without(v.Tables, e.Drop)
	if !is {
		return api.Version{}, api.ErrNone
	}
	if !mayAdd(left, e.Add) {
		return api.Version{}, api.ErrArg
	}
	tables := slices.Concat(left, own(e.Add))
	slices.SortStableFunc(tables, Compare)
	if share(tables) {
		return api.Version{}, api.ErrOrder
	}
	if !mayFollow(v, e) {
		return api.Version{}, api.ErrArg
	}
	return api.Version{
		Tables: tables,
		Seq:    cmp.Or(e.Seq, v.Seq),
		Next:   cmp.Or(e.Next, v.Next),
		Wal:    cmp.Or(e.Wal, v.Wal),
	}, api.OK
}

// without tells the tables but those of some files; false, if no table has one of these, or one is named twice.
func without(tables []api.Table, files []int) ([]api.Table, bool) {
	if len(files) == 0 {
		return tables, true
	}
	found := make(map[int]int, len(files)) // how many tables have a file that is named
	for _, file := range files {
		if _, twice := found[file]; twice {
			return nil, false
		}
		found[file] = 0
	}
	left := make([]api.Table, 0, len(tables))
	for _, t := range tables {
		if _, named := found[t.File]; named {
			found[t.File]++
		} else {
			left = append(left, t)
		}
	}
	none := func(file int) bool { return found[file] == 0 }
	return left, !slices.ContainsFunc(files, none)
}

// mayAdd tells whether tables may be added to those that are left.
func mayAdd(left, add []api.Table) bool {
	if len(left)+len(add) > maxTables {
		return false
	}
	files := make(map[int]struct{}, len(add))
	for _, t := range add {
		if _, twice := files[t.File]; twice || !mayBe(t) {
			return false
		}
		files[t.File] = struct{}{}
	}
	there := func(t api.Table) bool {
		_, is := files[t.File]
		return is
	}
	return !slices.ContainsFunc(left, there)
}

// mayBe tells whether there may be such a table at all.
func mayBe(t api.Table) bool {
	return within(t.File, maxNumber) && within(t.Level, maxLevel) && within(t.Size, maxNumber) && t.First <= t.Last
}

func within(n, most int) bool { return 0 <= n && n <= most }

// share tells whether two tables of a level, of 1 or above, share a Key. They stand in order, so if there are
// such two, there are two that stand behind one another; but a table whose First is above its Last, which only
// a version of somebody else's making has, shares none, and is passed over.
func share(tables []api.Table) bool {
	var last api.Table
	for _, t := range tables {
		if t.Level < 1 || t.First > t.Last {
			continue
		}
		if t.Level == last.Level && t.First <= last.Last {
			return true
		}
		last = t
	}
	return false
}

// mayFollow tells whether the numbers of an edit may follow those of a version.
func mayFollow(v api.Version, e api.Edit) bool {
	return (e.Seq == 0 || e.Seq >= v.Seq) && mayRise(v.Next, e.Next) && mayRise(v.Wal, e.Wal)
}

func mayRise(was, is int) bool { return is == 0 || was <= is && is <= maxNumber }

// own tells tables in memory of their own, their texts too: these may be pieces of great ones of the caller's.
func own(tables []api.Table) []api.Table {
	tables = append([]api.Table(nil), tables...)
	for i := range tables {
		t := &tables[i]
		t.First, t.Last = strings.Clone(t.First), strings.Clone(t.Last)
	}
	return tables
}
