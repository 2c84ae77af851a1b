package compact

import (
	"strings"

	"glacier/api"
)

// stretch is the Keys from the first one to the last one.
type stretch struct{ first, last string }

func (s stretch) shares(t api.Table) bool { return t.First <= s.last && s.first <= t.Last }

// around tells the stretch from the least First to the greatest Last of some tables, at least one.
func around(tables []api.Table) stretch {
	s := stretch{tables[0].First, tables[0].Last}
	for _, t := range tables {
		s = stretch{min(s.first, t.First), max(s.last, t.Last)}
	}
	return s
}

// own tells a table whose texts lie in memory of their own: these may be pieces of great ones of the caller's.
func own(t api.Table) api.Table {
	t.First, t.Last = strings.Clone(t.First), strings.Clone(t.Last)
	return t
}
