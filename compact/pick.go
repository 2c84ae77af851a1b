package compact

import "glacier/api"

const (
	maxZero  = 100
	maxBase  = 1 << 30
	maxTable = 1 << 26
	lowest   = 6 // the last level, from which nothing goes further down
)

// within tells the number from 1 to most that is nearest to n: n alone, if it is one of these.
func within(n, most int) int { return min(max(n, 1), most) }

// at tells the tables of a level.
func at(v api.Version, level int) []api.Table {
	var tables []api.Table
	for _, t := range v.Tables {
		if t.Level == level {
			tables = append(tables, t)
		}
	}
	return tables
}

// heavy tells the table that is to go down: the greatest of the first level from 1 on that has too much. If none
// has, it tells the zero one, which is a table of level 0, and so of none of these.
func heavy(v api.Version, base int) api.Table {
levels:
	for level, bound := 1, uint64(base); level < lowest; level, bound = level+1, 10*bound {
		var all sum
		var greatest api.Table
		for _, t := range at(v, level) {
			all = all.plus(t.Size)
			if t.Size > greatest.Size {
				greatest = t
			}
		}
		if !all.above(bound) {
			continue levels
		}
		return greatest
	}
	return api.Table{}
}

// job tells the job that takes these tables of a level, at least one, down to the next one.
func job(v api.Version, level int, tables []api.Table) Job {
	s := around(tables)
	tables = append(tables, Over(v, level+1, s.first, s.last)...)
	j := Job{Level: level, Bottom: true}
	for _, t := range tables {
		j.Inputs = append(j.Inputs, t.File)
	}
	// The tables of the next level may reach further than those that go down to it.
	s = around(tables)
levels:
	for below := level + 2; below <= lowest; below++ {
		for _, t := range at(v, below) {
			if s.shares(t) {
				j.Bottom = false
				break levels
			}
		}
	}
	return j
}
