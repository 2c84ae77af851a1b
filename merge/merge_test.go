package merge_test

import (
	"cmp"
	"strconv"
	"testing"

	"glacier/api"
	"glacier/merge"
)

// inOrder are entries in the order of W3, none with the place of another.
func inOrder() []api.Entry {
	var l []api.Entry
	for _, key := range []string{"", "\x00", "\x00\x00", "A", "a", "a\x00", "a\x00\x01", "aa", "ab", "b", "\x7F", "\x80", "\xC3\xA9", "\xFF", "\xFF\xFF"} {
		for _, seq := range []uint64{greatest, greatest - 1, 1 << 63, 1<<63 - 1, 1 << 32, 2, 1, 0} {
			l = append(l, value(key, seq, "x"))
		}
	}
	return l
}

func TestP601Compare(t *testing.T) {
	l := inOrder()
	for i, a := range l {
		for j, b := range l {
			if got := merge.Compare(a, b); got != cmp.Compare(i, j) {
				t.Errorf("P601: Compare(%q, %q) = %d; want %d", word(a), word(b), got, cmp.Compare(i, j))
			}
		}
	}
}

func TestP601CompareIsOfPlacesAlone(t *testing.T) {
	for _, l := range [][]api.Entry{
		{value("a", 1, "x"), gone("a", 1), value("a", 1, ""), value("a", 1, "y"), {Key: "a", Seq: 1, Gone: true, Value: []byte("z")}},
		{value("", 0, "x"), gone("", 0), {}},
	} {
		for _, a := range l {
			for _, b := range l {
				if got := merge.Compare(a, b); got != 0 {
					t.Errorf("P601: Compare(%q, %q) = %d; want 0", word(a), word(b), got)
				}
			}
		}
	}
	if merge.Compare(gone("a", 1), value("a", 2, "")) != 1 || merge.Compare(value("a", 2, "z"), gone("a", 1)) != -1 {
		t.Error("P601: the newer one does not stand first, if the other one is gone")
	}
}

func TestP601Right(t *testing.T) {
	for _, l := range [][]api.Entry{
		nil, {}, {{}}, inOrder(),
		row("a 5 x, a 3 y, a 1 z, b 2 gone"), row("a 1 gone"), row("a 2 gone, a 1 gone, b 9 gone"), row("a 1 , b 1 "),
		{{Key: "a", Seq: 1, Gone: true, Value: []byte{}}, {Key: "b", Seq: 1, Gone: true, Value: []byte("room")[:0]}},
	} {
		if !merge.Right(l) {
			t.Errorf("P601: %q is said not to be right", show(l))
		}
	}
	for what, l := range notRight() {
		if merge.Right(l) {
			t.Errorf("P601: %q, %s, is said to be right", show(l), what)
		}
	}
}

// TestP601RightOfEachPair exchanges each two entries of a list that is right.
func TestP601RightOfEachPair(t *testing.T) {
	l := row("a 5 x, a 3 gone, aa 9 y, b 2 gone, b 1 x, b 0 gone")
	for i := range l {
		for j := range l {
			l[i], l[j] = l[j], l[i]
			if merge.Right(l) != (i == j) {
				t.Errorf("P601: Right(%q) = %v; want %v", show(l), i != j, i == j)
			}
			l[i], l[j] = l[j], l[i]
		}
	}
}

func TestP602MergeAndCursor(t *testing.T) {
	all := "a 5 x, a 3 y, a 1 z, b 2 gone"
	both(t, all, row(all))
	both(t, all, row("a 5 x, b 2 gone"), row("a 3 y, a 1 z"))
	both(t, all, row("a 3 y, a 1 z"), row("a 5 x, b 2 gone"))
	both(t, all, row("b 2 gone"), row("a 1 z"), row("a 3 y"), row("a 5 x"))
	both(t, all, row("a 5 x"), row("a 3 y"), row("a 1 z"), row("b 2 gone"))
	both(t, " 1 x, a 1 y, aa 1 z, ab 1 gone, b 1 x", row("a 1 y, b 1 x"), row("aa 1 z"), row(" 1 x, ab 1 gone"))
	both(t, " 0 , a 18446744073709551615 x, a 0 gone", row("a 0 gone"), row(" 0 , a 18446744073709551615 x"))
}

func TestP602WithoutEntries(t *testing.T) {
	both(t, "")
	both(t, "", nil)
	both(t, "", []api.Entry{}, nil, []api.Entry{})
	both(t, "a 1 x", nil, row("a 1 x"))
	both(t, "a 1 x", row("a 1 x"), []api.Entry{})
	both(t, "a 1 x, b 1 y, c 1 z", nil, row("b 1 y"), nil, nil, row("a 1 x, c 1 z"), nil)
}

func TestP602TheFirstListCounts(t *testing.T) {
	both(t, "a 5 x", row("a 5 x"), row("a 5 y"))
	both(t, "a 5 y", row("a 5 y"), row("a 5 x"))
	both(t, "a 5 gone", row("a 5 gone"), row("a 5 y"))
	both(t, "a 5 y", row("a 5 y"), row("a 5 gone"))
	both(t, "a 5 ", row("a 5 "), row("a 5 y"))
	both(t, "a 5 2, a 4 1, a 3 2, b 1 1", row("a 4 1, b 1 1"), row("a 5 2, a 4 2, a 3 2, b 1 2"), row("a 5 3, a 3 3"))
	both(t, "a 5 1, a 4 2, a 3 3", row("a 5 1"), row("a 5 2, a 4 2"), row("a 5 3, a 4 3, a 3 3"))
	both(t, "a 5 3, a 4 2, a 3 1", row("a 3 1"), row("a 4 2, a 3 2"), row("a 5 3, a 4 3, a 3 3"))
	both(t, "a 1 x, b 1 y", nil, row("a 1 x, b 1 y"), row("a 1 x, b 1 y"), row("b 1 z"))
	both(t, " 0 1", row(" 0 1"), row(" 0 2"))
	both(t, "a 18446744073709551615 1, a 0 2", row("a 18446744073709551615 1"), row("a 18446744073709551615 2, a 0 2"), row("a 0 3"))
}

// TestP602ManyListsOfTheSame lays the same places into many lists, where each but the first has what is passed over.
func TestP602ManyListsOfTheSame(t *testing.T) {
	for many := range 20 {
		for from := range many {
			lists := make([][]api.Entry, many)
			for i := from; i < many; i++ {
				text := strconv.Itoa(i)
				lists[i] = []api.Entry{value("a", 2, text), value("a", 1, text), value("b", 2, text)}
			}
			text := strconv.Itoa(from)
			both(t, "a 2 "+text+", a 1 "+text+", b 2 "+text, lists...)
		}
	}
}

func TestP602WhatIsNotRight(t *testing.T) {
	for what, bad := range notRight() {
		good, other := row("a 9 x, b 2 y"), row("b 1 gone, c 1 z")
		for _, lists := range [][][]api.Entry{
			{bad}, {bad, good, other}, {good, bad, other}, {good, other, bad}, {nil, bad}, {bad, nil}, {bad, bad},
		} {
			l, err := merge.Merge(lists...)
			refused(t, "P602: Merge of "+what, l, err)
		}
	}
}

func TestP602OfManyEntries(t *testing.T) {
	const many = 20000
	for _, parts := range []int{1, 2, 3, 100, 4999, many} {
		lists := make([][]api.Entry, parts)
		for i := range many {
			e := value(strconv.Itoa(many+i/3), uint64(9-i%3), strconv.Itoa(i))
			lists[i*7919%parts] = append(lists[i*7919%parts], e)
		}
		l, err := merge.Merge(lists...)
		if err != api.OK || len(l) != many {
			t.Fatalf("P602: of %d entries in %d lists %d are told, %v", many, parts, len(l), err)
		}
		i := 0
		for e := range merge.Cursor(sequences(lists)...) {
			if string(l[i].Value) != strconv.Itoa(i) || word(e) != word(l[i]) {
				t.Fatalf("P602: of %d lists the entry %d is %s by Merge, %s by Cursor", parts, i, word(l[i]), word(e))
			}
			i++
		}
		if i != many {
			t.Fatalf("P602: of %d entries in %d sequences %d are told", many, parts, i)
		}
	}
}

func TestP603Seen(t *testing.T) {
	l := row("a 5 x, a 3 y, a 1 z, b 2 gone")
	for up, want := range []string{"", "a 1 z", "a 1 z", "a 3 y", "a 3 y", "a 5 x", "a 5 x"} {
		seen, err := merge.Seen(l, uint64(up))
		is(t, "P603: Seen up to "+strconv.Itoa(up), seen, err, want)
	}
	l = row(" 4 gone,  3 x, a 4 x, a 2 gone, a 0 y, aa 0 , b 3 gone, b 1 gone, c 2 x")
	for up, want := range []string{"a 0 y, aa 0 ", "a 0 y, aa 0 ", "aa 0 , c 2 x", " 3 x, aa 0 , c 2 x", "a 4 x, aa 0 , c 2 x"} {
		seen, err := merge.Seen(l, uint64(up))
		is(t, "P603: Seen up to "+strconv.Itoa(up), seen, err, want)
	}
}

func TestP603SeqsAtTheEnds(t *testing.T) {
	l := []api.Entry{value("a", greatest, "end"), value("a", 0, "begin"), gone("b", greatest), value("b", 1<<63, "half"), value("c", 1<<63-1, "less")}
	for up, want := range map[uint64]string{
		greatest:     "a 18446744073709551615 end, c 9223372036854775807 less",
		greatest - 1: "a 0 begin, b 9223372036854775808 half, c 9223372036854775807 less",
		1 << 63:      "a 0 begin, b 9223372036854775808 half, c 9223372036854775807 less",
		1<<63 - 1:    "a 0 begin, c 9223372036854775807 less",
		1<<63 - 2:    "a 0 begin",
		0:            "a 0 begin",
	} {
		seen, err := merge.Seen(l, up)
		is(t, "P603: Seen up to "+strconv.FormatUint(up, 10), seen, err, want)
	}
}

func TestP603AndP604WithoutEntries(t *testing.T) {
	for _, l := range [][]api.Entry{nil, {}} {
		for _, n := range []uint64{0, 1, greatest} {
			seen, err := merge.Seen(l, n)
			is(t, "P603: Seen of nothing", seen, err, "")
			for _, bottom := range []bool{false, true} {
				left, err := merge.Prune(l, n, bottom)
				is(t, "P604: Prune of nothing", left, err, "")
			}
		}
	}
}

func TestP603AndP604WhatIsNotRight(t *testing.T) {
	for what, bad := range notRight() {
		for _, n := range []uint64{0, 1, 2, 9, greatest} {
			l, err := merge.Seen(bad, n)
			refused(t, "P603: Seen of "+what, l, err)
			for _, bottom := range []bool{false, true} {
				l, err := merge.Prune(bad, n, bottom)
				refused(t, "P604: Prune of "+what, l, err)
			}
		}
	}
}

// prunes asks for what Prune leaves; of bottom, what it leaves then.
func prunes(t *testing.T, l []api.Entry, keep uint64, want, bottom string) {
	t.Helper()
	left, err := merge.Prune(l, keep, false)
	is(t, "P604: Prune from "+strconv.FormatUint(keep, 10)+" on", left, err, want)
	left, err = merge.Prune(l, keep, true)
	is(t, "P604: Prune at the bottom from "+strconv.FormatUint(keep, 10)+" on", left, err, bottom)
}

func TestP604Prune(t *testing.T) {
	l := row("a 5 x, a 3 y, a 1 z, b 2 gone")
	all := "a 5 x, a 3 y, a 1 z, b 2 gone"
	prunes(t, l, 0, all, all)
	prunes(t, l, 1, all, all)
	prunes(t, l, 2, all, "a 5 x, a 3 y, a 1 z")
	prunes(t, l, 3, "a 5 x, a 3 y, b 2 gone", "a 5 x, a 3 y")
	prunes(t, l, 4, "a 5 x, a 3 y, b 2 gone", "a 5 x, a 3 y")
	prunes(t, l, 5, "a 5 x, b 2 gone", "a 5 x")
	prunes(t, l, greatest, "a 5 x, b 2 gone", "a 5 x")
}

func TestP604WhatIsGone(t *testing.T) {
	l := row("a 5 gone, a 4 x, a 2 gone, a 1 gone, a 0 y, b 0 gone")
	prunes(t, l, 0, "a 5 gone, a 4 x, a 2 gone, a 1 gone, a 0 y, b 0 gone", "a 5 gone, a 4 x, a 2 gone, a 1 gone, a 0 y")
	prunes(t, l, 1, "a 5 gone, a 4 x, a 2 gone, a 1 gone, b 0 gone", "a 5 gone, a 4 x, a 2 gone")
	prunes(t, l, 2, "a 5 gone, a 4 x, a 2 gone, b 0 gone", "a 5 gone, a 4 x")
	prunes(t, l, 3, "a 5 gone, a 4 x, a 2 gone, b 0 gone", "a 5 gone, a 4 x")
	prunes(t, l, 4, "a 5 gone, a 4 x, b 0 gone", "a 5 gone, a 4 x")
	prunes(t, l, 5, "a 5 gone, b 0 gone", "")
	prunes(t, l, greatest, "a 5 gone, b 0 gone", "")
	prunes(t, row("a 1 gone"), 1, "a 1 gone", "")
	prunes(t, row("a 1 gone"), 0, "a 1 gone", "a 1 gone")
}

func TestP604KeysAndSeqsAtTheEnds(t *testing.T) {
	l := row(" 18446744073709551615 gone,  0 x, a 9223372036854775808 y, a 9223372036854775807 gone, a 1 z, aa 1 , ab 0 gone")
	all := show(l)
	prunes(t, l, 0, all, " 18446744073709551615 gone,  0 x, a 9223372036854775808 y, a 9223372036854775807 gone, a 1 z, aa 1 ")
	prunes(t, l, 1<<63-1,
		" 18446744073709551615 gone,  0 x, a 9223372036854775808 y, a 9223372036854775807 gone, aa 1 , ab 0 gone",
		" 18446744073709551615 gone,  0 x, a 9223372036854775808 y, aa 1 ")
	for _, keep := range []uint64{1 << 63, greatest - 1} {
		prunes(t, l, keep,
			" 18446744073709551615 gone,  0 x, a 9223372036854775808 y, aa 1 , ab 0 gone",
			" 18446744073709551615 gone,  0 x, a 9223372036854775808 y, aa 1 ")
	}
	prunes(t, l, greatest, " 18446744073709551615 gone, a 9223372036854775808 y, aa 1 , ab 0 gone", "a 9223372036854775808 y, aa 1 ")
}

func TestP603AndP604OfManyVersions(t *testing.T) {
	var l []api.Entry
	const many = 20000
	for i := range many {
		l = append(l, value("a", uint64(2*(many-i)), strconv.Itoa(i)))
	}
	for i := range many {
		l = append(l, value("b"+strconv.Itoa(many+i), 1, strconv.Itoa(i)))
	}
	seen, err := merge.Seen(l, many+1)
	if err != api.OK || len(seen) != many+1 || seen[0].Seq != many || string(seen[many].Value) != strconv.Itoa(many-1) {
		t.Errorf("P603: of %d entries %d are seen, %v", len(l), len(seen), err)
	}
	left, err := merge.Prune(l, many+1, true)
	if err != api.OK || len(left) != many/2+1+many || show(left[:many/2+1]) != show(l[:many/2+1]) {
		t.Errorf("P604: of %d entries %d are left, %v", len(l), len(left), err)
	}
}

func TestP1OfAnyKeyAndValue(t *testing.T) {
	long := string(make([]byte, 1<<20))
	l := []api.Entry{value("", greatest, long), value("", 0, long), value(long, 1, long), gone(long+"\x00", 1), value(long+"\xFF", 1, "")}
	both(t, show(l), l[1:4], l, l[:2])
	seen, err := merge.Seen(l, 1)
	is(t, "P603: Seen", seen, err, show([]api.Entry{l[1], l[2], l[4]}))
	left, err := merge.Prune(l, greatest, true)
	is(t, "P604: Prune", left, err, show([]api.Entry{l[0], l[2], l[4]}))
}
