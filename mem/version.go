package mem

import (
	"cmp"
	"iter"
	"strings"

	"glacier/api"
)

// each is what a version counts for beside its Key and Value.
const each = 16

// version is one as the table keeps it: in texts, which nobody can write over.
type version struct {
	key   string
	seq   uint64
	gone  bool
	value string
}

// versionOf tells an entry as a version. The key is copied: it may be a piece of a great text of the caller's.
func versionOf(e api.Entry) version {
	v := version{key: strings.Clone(e.Key), seq: e.Seq, gone: e.Gone}
	if !e.Gone {
		v.value = string(e.Value)
	}
	return v
}

// entry tells a version as an entry, with a Value of its own.
func (v version) entry() api.Entry {
	return api.Entry{Key: v.key, Seq: v.seq, Gone: v.gone, Value: append([]byte(nil), v.value...)}
}

// compare orders versions by their keys, and those of one key the newest first.
func (v version) compare(x version) int {
	return cmp.Or(strings.Compare(v.key, x.key), cmp.Compare(x.seq, v.seq))
}

func (v version) size() int { return len(v.key) + len(v.value) + each }

// entries goes over versions as entries.
func entries(versions iter.Seq[version]) iter.Seq[api.Entry] {
	return func(yield func(api.Entry) bool) {
		for v := range versions {
			if !yield(v.entry()) {
				return
			}
		}
	}
}
