package mem_test

import (
	"iter"
	"math"
	"strconv"
	"strings"
	"testing"

	"glacier/api"
	"glacier/mem"
)

const greatest = math.MaxUint64

// value tells a version that has a Value.
func value(key string, seq uint64, text string) api.Entry {
	return api.Entry{Key: key, Seq: seq, Value: []byte(text)}
}

// gone tells one that is Gone.
func gone(key string, seq uint64) api.Entry {
	return api.Entry{Key: key, Seq: seq, Gone: true}
}

// table tells a new table, into which versions are put.
func table(draws []int, versions ...api.Entry) *mem.Table {
	x := mem.New(draws...)
	for _, e := range versions {
		x.Put(e)
	}
	return x
}

// word tells a version in a few letters, the letters a to z and the digits of a key as they are.
func word(e api.Entry) string {
	key := strconv.Quote(e.Key)
	if e.Key != "" && strings.Trim(e.Key, "abcdefghijklmnopqrstuvwxyz0123456789") == "" {
		key = e.Key
	}
	s := key + " " + strconv.FormatUint(e.Seq, 10)
	switch {
	case e.Gone && len(e.Value) > 0:
		return s + " gone with the value " + string(e.Value)
	case e.Gone:
		return s + " gone"
	}
	return s + " " + string(e.Value)
}

// tell tells what a sequence goes over.
func tell(seq iter.Seq[api.Entry]) string {
	var l []string
	for e := range seq {
		l = append(l, word(e))
	}
	return strings.Join(l, ", ")
}

// show tells what a table tells of all its versions: how many there are, their bytes, and each.
func show(x *mem.Table) string {
	return strconv.Itoa(x.Len()) + ", " + strconv.Itoa(x.Size()) + ": " + tell(x.All())
}

// is asks for a state, as show tells it.
func is(t *testing.T, promise string, x *mem.Table, want string) {
	t.Helper()
	if s := show(x); s != want {
		t.Errorf("%s: the table is %q; want %q", promise, s, want)
	}
}

// over asks for what a sequence goes over.
func over(t *testing.T, promise string, seq iter.Seq[api.Entry], want string) {
	t.Helper()
	if s := tell(seq); s != want {
		t.Errorf("%s: a sequence tells %q; want %q", promise, s, want)
	}
}

// got asks for what Get tells; "" is nothing, and nothing is to stand beside it.
func got(t *testing.T, x *mem.Table, key string, up uint64, want string) {
	t.Helper()
	e, is := x.Get(key, up)
	s := ""
	if is {
		s = word(e)
	}
	if s != want || !is && (e.Key != "" || e.Seq != 0 || e.Gone || len(e.Value) != 0) {
		t.Errorf("P502: Get(%q, %d) = %q, %v; want %q", key, up, word(e), is, want)
	}
}

// someDraws are rows of draws that make tables of many shapes.
func someDraws() [][]int {
	return [][]int{
		nil, {}, {0}, {11}, {3}, {-1}, {0, 1}, {11, 0, 0, 0}, {0, 0, 0, 11}, {1, 0, 2, 0, 1, 0, 3, 0},
		{math.MinInt, math.MaxInt, -12, 12, 13}, {11, 10, 9, 8, 7, 6, 5, 4, 3, 2, 1, 0}, {0, 0, 1, 0, 0, 4, 0},
	}
}
