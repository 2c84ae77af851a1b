package lsm

import (
	"slices"

	"glacier/api"
	"glacier/compact"
)

const (
	maxTables   = 1 << 16 // of a version
	numberBytes = 10      // of a number in an edit, at most
)

// move does a job by which a table goes down a level as it is.
func (t *DB) move(v api.Version, j compact.Job) api.Errno {
	e := api.Edit{Drop: j.Inputs}
	for _, table := range v.Tables {
		if table.File == j.Inputs[0] {
			table.Level = j.Level + 1
			e.Add = append(e.Add, table)
		}
	}
	return t.commit(e)
}

// run does a job by which tables are merged. Only when their files are wanted no more, they are deleted.
func (t *DB) run(v api.Version, j compact.Job) api.Errno {
	var inputs [][]api.Entry
	for _, file := range j.Inputs {
		table, is := t.tables[file]
		if !is {
			// Who commits past the tree, to its set, may name any.
			return api.ErrForm
		}
		inputs = append(inputs, slices.Collect(table.All()))
	}
	lists, err := compact.Run(t.keep(), j.Bottom, t.options.Shape.Table, inputs...)
	if err != api.OK {
		return err
	}
	for len(lists) > 1 && !fit(lists, len(v.Tables)-len(j.Inputs), len(j.Inputs)) {
		lists = paired(lists)
	}
	if err := t.change(api.Edit{Drop: j.Inputs}, j.Level+1, lists...); err != api.OK {
		return err
	}
	for _, file := range j.Inputs {
		t.remove(file)
	}
	return api.OK
}

// keep tells the least number of which somebody may still ask.
func (t *DB) keep() uint64 {
	keep := t.seq
	for seq := range t.holds {
		keep = min(keep, seq)
	}
	return keep
}

// fit tells whether an edit may add a table for each list to those that are left, and be read back, too: it has no
// more than MaxValue bytes.
func fit(lists [][]api.Entry, left, dropped int) bool {
	size := numberBytes * (dropped + 5)
	for _, l := range lists {
		size += len(l[0].Key) + len(l[len(l)-1].Key) + 5*numberBytes
	}
	return left+len(lists) <= maxTables && size <= api.MaxValue
}

// paired tells lists of which each has what two have that stand behind one another.
func paired(lists [][]api.Entry) [][]api.Entry {
	var pairs [][]api.Entry
	for pair := range slices.Chunk(lists, 2) {
		pairs = append(pairs, slices.Concat(pair...))
	}
	return pairs
}
