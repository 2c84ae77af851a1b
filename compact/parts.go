package compact

import "glacier/api"

// parts parts entries into lists, each in memory of its own. A list ends behind all versions of a Key, as soon as
// it has that size.
func parts(l []api.Entry, size int) [][]api.Entry {
	var lists [][]api.Entry
	begin, has := 0, 0
	for i, e := range l {
		has += Size(e)
		if i+1 == len(l) || has >= size && l[i+1].Key != e.Key {
			lists = append(lists, append([]api.Entry(nil), l[begin:i+1]...))
			begin, has = i+1, 0
		}
	}
	return lists
}
