package merge

import (
	"iter"
	"sort"
	"strings"

	"glacier/api"
)

// own tells an entry in memory of its own.
func own(e api.Entry) api.Entry {
	e.Key = strings.Clone(e.Key)
	e.Value = append([]byte(nil), e.Value...)
	return e
}

func sameKey(a, b api.Entry) bool { return a.Key == b.Key }

// newest tells the place of the newest version up to a Seq among those of one Key; how many they are, if all
// of them are above it.
func newest(versions []api.Entry, up uint64) int {
	return sort.Search(len(versions), func(i int) bool { return versions[i].Seq <= up })
}

// runs goes over a list in pieces of items that are the same in some way, and stand behind one another.
func runs[T any](l []T, same func(a, b T) bool) iter.Seq[[]T] {
	return func(yield func([]T) bool) {
		begin := 0
		for i := range l {
			if i > begin && !same(l[begin], l[i]) {
				if !yield(l[begin:i]) {
					return
				}
				begin = i
			}
		}
		if begin < len(l) {
			yield(l[begin:])
		}
	}
}
