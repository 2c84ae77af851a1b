package manifest_test

import (
	"math"
	"math/rand"
	"slices"
	"testing"

	"glacier/api"
	"glacier/manifest"
)

// hasFile tells whether one of some tables has a file.
func hasFile(tables []api.Table, file int) bool {
	return slices.ContainsFunc(tables, func(t api.Table) bool { return t.File == file })
}

// apply goes by the words of P802, without care for time.
func apply(v api.Version, edits ...api.Edit) (api.Version, api.Errno) {
	for _, e := range edits {
		var left []api.Table
		for i, file := range e.Drop {
			if !hasFile(v.Tables, file) || slices.Index(e.Drop, file) < i {
				return api.Version{}, api.ErrNone
			}
		}
		for _, t := range v.Tables {
			if !slices.Contains(e.Drop, t.File) {
				left = append(left, t)
			}
		}
		for i, t := range e.Add {
			if t.File < 0 || hasFile(left, t.File) || hasFile(e.Add[:i], t.File) || t.File > 1<<40 || t.Level < 0 || t.Level > 6 || t.First > t.Last || t.Size < 0 || t.Size > 1<<40 {
				return api.Version{}, api.ErrArg
			}
		}
		if len(left)+len(e.Add) > 1<<16 {
			return api.Version{}, api.ErrArg
		}
		all := slices.Concat(left, e.Add)
		for i, a := range all {
			for _, b := range all[:i] {
				if a.Level == b.Level && a.Level >= 1 && max(a.First, b.First) <= min(a.Last, b.Last) {
					return api.Version{}, api.ErrOrder
				}
			}
		}
		if e.Seq != 0 && e.Seq < v.Seq || e.Next != 0 && e.Next < v.Next || e.Wal != 0 && e.Wal < v.Wal || e.Next > 1<<40 || e.Wal > 1<<40 {
			return api.Version{}, api.ErrArg
		}
		v.Tables = inOrder(all)
		if e.Seq != 0 {
			v.Seq = e.Seq
		}
		if e.Next != 0 {
			v.Next = e.Next
		}
		if e.Wal != 0 {
			v.Wal = e.Wal
		}
	}
	return v, api.OK
}

// inOrder lays tables one by one at their place behind those that are not above them.
func inOrder(tables []api.Table) []api.Table {
	var l []api.Table
	for _, t := range tables {
		at := 0
		for i, x := range l {
			if x.Level < t.Level || x.Level == t.Level && (x.First < t.First || x.First == t.First && x.File <= t.File) {
				at = i + 1
			}
		}
		l = slices.Insert(l, at, t)
	}
	return l
}

// draws makes edits and versions of which many are right, and many are wrong by a little.
type draws struct{ *rand.Rand }

// rarely tells a number up to below n, or one of the others.
func (d draws) rarely(n int, others ...int) int {
	if d.Intn(40) == 0 {
		return others[d.Intn(len(others))]
	}
	return d.Intn(n)
}

func (d draws) table() api.Table {
	first, last := "abcdefghijkl"[d.Intn(12):], "abcdefghijkl"[d.Intn(12):]
	if first > last && d.Intn(30) > 0 {
		first, last = last, first
	}
	return api.Table{
		File:  d.rarely(24, -1, 1<<40, 1<<40+1, math.MinInt, math.MaxInt),
		Level: d.rarely(4, -1, 5, 6, 7, math.MinInt, math.MaxInt),
		First: first[:min(len(first), d.Intn(3))], Last: last[:1],
		Size: d.rarely(9, -1, 1<<40, 1<<40+1),
	}
}

// edit is one to a version, whose numbers mostly rise.
func (d draws) edit(v api.Version) api.Edit {
	var e api.Edit
	for range d.Intn(3) {
		e.Add = append(e.Add, d.table())
	}
	if d.Intn(3) == 0 {
		for range d.Intn(3) {
			e.Drop = append(e.Drop, d.rarely(24, -1, 99))
			if n := len(v.Tables); n > 0 && d.Intn(5) > 0 {
				e.Drop[len(e.Drop)-1] = v.Tables[d.Intn(n)].File
			}
		}
	}
	e.Seq = uint64(d.rise(int(v.Seq)))
	e.Next, e.Wal = d.rise(v.Next), d.rise(v.Wal)
	return e
}

func (d draws) rise(was int) int {
	switch k := d.Intn(40); k {
	case 0:
		return was - 1
	case 1:
		return 1<<40 + 1
	default:
		return max(0, was+k-34)
	}
}

// version is one of somebody's making: its tables stand in any order, and may be wrong.
func (d draws) version() api.Version {
	var v api.Version
	for range d.Intn(4) {
		v.Tables = append(v.Tables, d.table())
	}
	v.Seq, v.Next, v.Wal = uint64(d.Intn(9)), d.rarely(9, -5), d.rarely(9, -5, 1<<40+5)
	return v
}

func TestP802OfAnyEdits(t *testing.T) {
	told := map[api.Errno]int{}
	for seed := range 400 {
		d := draws{rand.New(rand.NewSource(int64(seed)))}
		v := api.Version{}
		if seed%4 == 0 {
			v = d.version()
		}
		for range 200 {
			var edits []api.Edit
			for range d.Intn(4) {
				edits = append(edits, d.edit(v))
			}
			got, err := manifest.Apply(v, edits...)
			want, wantErr := apply(v, edits...)
			if err != wantErr || !same(got, want) {
				t.Fatalf("P802: Apply(%v, %v): %v, %v; want %v, %v", v, edits, got, err, want, wantErr)
			}
			told[err]++
			if err == api.OK {
				v = got
			}
		}
	}
	for _, err := range []api.Errno{api.OK, api.ErrNone, api.ErrArg, api.ErrOrder} {
		if told[err] < 1000 {
			t.Errorf("P802: of any edits Apply told %v only %d times", err, told[err])
		}
	}
}
