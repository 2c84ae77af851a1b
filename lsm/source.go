package lsm

import (
	"iter"
	"sort"

	"glacier/api"
	"glacier/merge"
	"glacier/sst"
)

// source is what has entries: the table in memory, and each row of tables.
type source interface {
	Get(key string, up uint64) (api.Entry, bool)
	From(key string) iter.Seq[api.Entry]
}

// row is tables that share no Key, in the order of these.
type row []*sst.Table

func (r row) Get(key string, up uint64) (api.Entry, bool) {
	r = r.from(key)
	if len(r) == 0 {
		return api.Entry{}, false
	}
	return r[0].Get(key, up)
}

func (r row) From(key string) iter.Seq[api.Entry] {
	r = r.from(key)
	return func(yield func(api.Entry) bool) {
		for _, t := range r {
			for e := range t.From(key) {
				if !yield(e) {
					return
				}
			}
		}
	}
}

// from tells the tables whose last Key is a key, or behind it.
func (r row) from(key string) row {
	return r[sort.Search(len(r), func(i int) bool {
		_, last, _ := r[i].Bounds()
		return last >= key
	}):]
}

// arrange lays the tables of a version into rows, as few as there can be in their order.
func (t *DB) arrange(v api.Version) {
	t.rows = nil
	end := "" // the last Key of the last row
	for _, place := range v.Tables {
		// Who commits past the tree, to its set, may name tables that it has not opened.
		table, is := t.tables[place.File]
		if !is {
			continue
		}
		first, last, _ := table.Bounds()
		if n := len(t.rows); n > 0 && end < first {
			t.rows[n-1] = append(t.rows[n-1], table)
		} else {
			t.rows = append(t.rows, row{table})
		}
		end = last
	}
}

func (t *DB) sources() []source {
	all := []source{t.memory}
	for _, r := range t.rows {
		all = append(all, r)
	}
	return all
}

// newest tells the newest version of a key up to a number, Gone or not.
func (t *DB) newest(key string, up uint64) (api.Entry, bool) {
	var newest api.Entry
	found := false
	for _, s := range t.sources() {
		if e, is := s.Get(key, up); is && (!found || e.Seq > newest.Seq) {
			newest, found = e, true
		}
	}
	return newest, found
}

// seen goes over the newest versions of the keys from one on, but those that are Gone.
func (t *DB) seen(from string) iter.Seq[api.Entry] {
	var sequences []iter.Seq[api.Entry]
	for _, s := range t.sources() {
		sequences = append(sequences, s.From(from))
	}
	return func(yield func(api.Entry) bool) {
		var last api.Entry
		begun := false
		for e := range merge.Cursor(sequences...) {
			if begun && e.Key == last.Key {
				continue
			}
			last, begun = e, true
			if !e.Gone && !yield(e) {
				return
			}
		}
	}
}
