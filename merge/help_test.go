package merge_test

import (
	"iter"
	"math"
	"slices"
	"strconv"
	"strings"
	"testing"

	"glacier/api"
	"glacier/merge"
)

const greatest = math.MaxUint64

// value tells a version that has a Value.
func value(key string, seq uint64, text string) api.Entry {
	return api.Entry{Key: key, Seq: seq, Value: []byte(text)}
}

// gone tells one that is Gone.
func gone(key string, seq uint64) api.Entry {
	return api.Entry{Key: key, Seq: seq, Gone: true}
}

// row tells the versions that a text names, as word tells them.
func row(text string) []api.Entry {
	var l []api.Entry
	if text == "" {
		return l
	}
	for _, w := range strings.Split(text, ", ") {
		part := strings.SplitN(w, " ", 3)
		seq, err := strconv.ParseUint(part[1], 10, 64)
		if err != nil {
			panic("no version: " + w)
		}
		if part[2] == "gone" {
			l = append(l, gone(part[0], seq))
		} else {
			l = append(l, value(part[0], seq, part[2]))
		}
	}
	return l
}

// word tells a version in a few letters: its key, its Seq, and its Value, if it is not gone.
func word(e api.Entry) string {
	s := e.Key + " " + strconv.FormatUint(e.Seq, 10) + " "
	switch {
	case e.Gone && len(e.Value) > 0:
		return s + "gone with the value " + string(e.Value)
	case e.Gone:
		return s + "gone"
	}
	return s + string(e.Value)
}

func show(l []api.Entry) string {
	var words []string
	for _, e := range l {
		words = append(words, word(e))
	}
	return strings.Join(words, ", ")
}

// sequences tells each list as a sequence.
func sequences(lists [][]api.Entry) []iter.Seq[api.Entry] {
	var l []iter.Seq[api.Entry]
	for _, entries := range lists {
		l = append(l, slices.Values(entries))
	}
	return l
}

// is asks for the entries that a call tells.
func is(t *testing.T, call string, l []api.Entry, err api.Errno, want string) {
	t.Helper()
	if show(l) != want || err != api.OK {
		t.Errorf("%s tells %q, %v; want %q", call, show(l), err, want)
	}
}

// refused asks for ErrOrder, and nothing beside it.
func refused(t *testing.T, call string, l []api.Entry, err api.Errno) {
	t.Helper()
	if len(l) != 0 || err != api.ErrOrder {
		t.Errorf("%s tells %q, %v; want nothing, %v", call, show(l), err, api.ErrOrder)
	}
}

// both asks Merge and Cursor for the same entries of the same lists.
func both(t *testing.T, want string, lists ...[]api.Entry) {
	t.Helper()
	l, err := merge.Merge(lists...)
	is(t, "P602: Merge", l, err, want)
	seq := merge.Cursor(sequences(lists)...)
	for range 2 {
		is(t, "P602: Cursor", slices.Collect(seq), api.OK, want)
	}
}

// notRight are lists that are not Right, each by one thing.
func notRight() map[string][]api.Entry {
	with := api.Entry{Key: "b", Seq: 2, Gone: true, Value: []byte("x")}
	return map[string][]api.Entry{
		"a Seq that rises":                row("a 1 x, a 2 y"),
		"a Seq that rises, last":          row("a 5 x, b 4 x, b 3 gone, b 9 x"),
		"a Key that falls":                row("b 1 x, a 1 x"),
		"a Key that falls with its Seq":   row("b 9 x, a 1 x"),
		"a Key that falls to its front":   row("ab 1 x, a 1 x"),
		"a Key that falls to none":        row("a 1 x,  1 x"),
		"a Key that falls, last":          row("a 3 x, b 2 x, d 1 x, c 1 x"),
		"a Key that comes again":          row("a 3 x, b 2 x, a 1 x"),
		"a Key of bytes that fall":        {value("\x80", 1, ""), value("\x7F", 1, "")},
		"a Seq that rises past half":      {value("a", 1<<63-1, ""), value("a", 1<<63, "")},
		"a Seq that rises from 0":         {value("a", 0, ""), value("a", greatest, "")},
		"the same twice":                  row("a 1 x, a 1 x"),
		"the same twice, one gone":        row("a 1 x, a 1 gone"),
		"the same twice, last":            row("a 2 x, b 1 x, b 1 y"),
		"the same twice, of no Key":       row(" 0 x,  0 x"),
		"gone with a Value, alone":        {with},
		"gone with a Value, first":        {with, value("b", 1, "x"), value("c", 1, "x")},
		"gone with a Value, in the midst": {value("a", 1, "x"), with, value("c", 1, "x")},
		"gone with a Value, last":         {value("a", 1, "x"), value("b", 3, "x"), with},
	}
}

// seqs are the numbers about those of a list: at, below and above each, 0 and the greatest.
func seqs(l []api.Entry) []uint64 {
	ups := []uint64{0, 1, greatest - 1, greatest}
	for _, e := range l {
		ups = append(ups, e.Seq-1, e.Seq, e.Seq+1) // below 0 comes the greatest: that is one, too
	}
	slices.Sort(ups)
	return slices.Compact(ups)
}
