package sst_test

import (
	"slices"
	"strconv"
	"strings"
	"testing"

	"glacier/api"
	"glacier/sst"
)

// tells asks a table for all that it tells of entries in blocks, and of what is not there.
func tells(t *testing.T, x *sst.Table, blocks [][]api.Entry) {
	t.Helper()
	l := slices.Concat(blocks...)
	has(t, "P703", x, l, len(blocks))
	first, last, some := x.Bounds()
	if len(l) == 0 && (first != "" || last != "" || some) || len(l) > 0 && (first != l[0].Key || last != l[len(l)-1].Key || !some) {
		t.Errorf("P703: Bounds() = %q, %q, %v", first, last, some)
	}
	keys := map[string]bool{}
	for _, e := range l {
		keys[e.Key] = true
	}
	filter := plainFilter(keys)
	for _, key := range about(l) {
		over(t, "P703: From "+strconv.Quote(key), x.From(key), plainFrom(l, key))
		for _, up := range seqs(l) {
			gets(t, x, l, key, up)
		}
		if x.May(key) != plainMay(filter, key) {
			t.Errorf("P703: May(%q) = %v", key, x.May(key))
		}
	}
}

// about tells the keys of a list, some between them, and some ahead of and behind all.
func about(l []api.Entry) []string {
	keys := []string{"", "\x00", "A", "m", "zzz", "\xFF\xFF\xFF"}
	for _, e := range l {
		keys = append(keys, e.Key, e.Key+"\x00", e.Key+"\xFF")
		if n := len(e.Key); n > 0 {
			keys = append(keys, e.Key[:n-1], e.Key[:n-1]+string([]byte{e.Key[n-1] - 1}), e.Key[:n-1]+string([]byte{e.Key[n-1] + 1}))
		}
	}
	slices.Sort(keys)
	return slices.Compact(keys)
}

// seqs are the numbers about those of a list: at, below and above each, 0 and the greatest.
func seqs(l []api.Entry) []uint64 {
	ups := []uint64{0, 1, greatest - 1, greatest}
	for _, e := range l {
		ups = append(ups, e.Seq-1, e.Seq, e.Seq+1) // below 0 comes the greatest: that is one, too
	}
	slices.Sort(ups)
	return slices.Compact(ups)
}

func plainFrom(l []api.Entry, key string) []api.Entry {
	var from []api.Entry
	for _, e := range l {
		if e.Key >= key {
			from = append(from, e)
		}
	}
	return from
}

// gets asks Get for the newest version up to a number; for nothing, and nothing beside it, if there is none.
func gets(t *testing.T, x *sst.Table, l []api.Entry, key string, up uint64) {
	t.Helper()
	var want api.Entry
	some := false
	for _, e := range l {
		if e.Key == key && e.Seq <= up && (!some || e.Seq > want.Seq) {
			want, some = e, true
		}
	}
	if e, is := x.Get(key, up); is != some || !same(e, want) {
		t.Errorf("P703: Get(%q, %d) = %q, %v; want %q, %v", key, up, word(e), is, word(want), some)
	}
	if some && !x.May(key) {
		t.Errorf("P704: May(%q) is false, but Get is not", key)
	}
}

func plainMay(filter []byte, key string) bool {
	for _, i := range plainBits(key, uint64(8*len(filter))) {
		if filter[i/8]>>(i%8)&1 == 0 {
			return false
		}
	}
	return true
}

func TestP703WhatTablesTell(t *testing.T) {
	l := numbered(12)
	for _, blocks := range [][][]api.Entry{
		nil,
		{row("a 1 x")},
		{row("a 1 gone")},
		{{{}}},
		{{gone("", greatest), value("", 0, "x")}, {value("\xFF", 7, "")}},
		{row("b 9 x, b 6 gone, b 3 , d 5 y")},
		{row("b 9 x"), row("b 6 gone"), row("b 3 , d 5 y")},
		{row("b 9 x, b 6 gone"), row("b 3 , d 5 y, d 0 gone, da 9 z"), row("db 9 z")},
		{l}, {l[:1], l[1:11], l[11:]}, {l[:6], l[6:]},
	} {
		tells(t, open(t, plainParts(blocks...).bytes()), blocks)
		l := slices.Concat(blocks...)
		for _, block := range []int{1, 9, 30, api.MaxValue} {
			tells(t, table(t, l, block), plainBlocks(l, block))
		}
	}
}

func TestP703Get(t *testing.T) {
	x := table(t, []api.Entry{value("b", greatest, "v"), value("b", 9, "w"), gone("b", 6), value("b", 3, ""), value("d", 0, "y")}, 8)
	for _, c := range []struct {
		key  string
		up   uint64
		want string
	}{
		{"b", greatest, "b 18446744073709551615 v"},
		{"b", greatest - 1, "b 9 w"},
		{"b", 10, "b 9 w"},
		{"b", 9, "b 9 w"},
		{"b", 8, "b 6 gone"},
		{"b", 6, "b 6 gone"},
		{"b", 5, "b 3 "},
		{"b", 3, "b 3 "},
		{"b", 2, ""},
		{"b", 0, ""},
		{"d", greatest, "d 0 y"},
		{"d", 0, "d 0 y"},
		{"", greatest, ""},
		{"a", greatest, ""},
		{"b\x00", greatest, ""},
		{"c", greatest, ""},
		{"d\x00", 0, ""},
		{"e", greatest, ""},
		{"\xFF", 0, ""},
	} {
		e, is := x.Get(c.key, c.up)
		if is != (c.want != "") || is && word(e) != c.want || !is && !same(e, api.Entry{}) {
			t.Errorf("P703: Get(%q, %d) = %q, %v; want %q", c.key, c.up, word(e), is, c.want)
		}
	}
}

func TestP703From(t *testing.T) {
	x := table(t, row("b 9 x, b 6 gone, d 5 y, d 1 z, da 0 w"), 9)
	for key, want := range map[string]string{
		"":       "b 9 x, b 6 gone, d 5 y, d 1 z, da 0 w",
		"a":      "b 9 x, b 6 gone, d 5 y, d 1 z, da 0 w",
		"b":      "b 9 x, b 6 gone, d 5 y, d 1 z, da 0 w",
		"b\x00":  "d 5 y, d 1 z, da 0 w",
		"c":      "d 5 y, d 1 z, da 0 w",
		"d":      "d 5 y, d 1 z, da 0 w",
		"d\x00":  "da 0 w",
		"da":     "da 0 w",
		"da\x00": "",
		"e":      "",
		"\xFF":   "",
	} {
		if s := show(slices.Collect(x.From(key))); s != want {
			t.Errorf("P703: From(%q) tells %q; want %q", key, s, want)
		}
	}
	if s := show(slices.Collect(x.All())); s != "b 9 x, b 6 gone, d 5 y, d 1 z, da 0 w" {
		t.Errorf("P703: All() tells %q", s)
	}
}

// TestP703SequencesLeftEarly leaves them at each place, and goes over them again, also one within the other.
func TestP703SequencesLeftEarly(t *testing.T) {
	l := numbered(30)
	x := table(t, l, 50)
	all, from := x.All(), x.From(l[7].Key)
	for n := range len(l) + 1 {
		told := 0
		for e := range all {
			if told == n {
				break
			}
			if !same(e, l[told]) {
				t.Errorf("P703: entry %d is %q", told, word(e))
			}
			told++
			for e := range from {
				if !same(e, l[6]) { // the first one of its Key
					t.Errorf("P703: From tells %q first; want %q", word(e), word(l[6]))
				}
				break
			}
		}
		if told != n {
			t.Errorf("P703: All ended behind %d entries", told)
		}
	}
	for range 2 {
		over(t, "P7: All", all, l)
		over(t, "P7: From", from, l[6:])
	}
	for a := range all {
		for b := range all {
			if b.Key > a.Key {
				break
			}
		}
	}
	over(t, "P7: All", all, l)
}

// TestP703May: it is true of each Key that is there, and false of most of the others.
func TestP703May(t *testing.T) {
	var l []api.Entry
	keys := map[string]bool{}
	for i := range 1000 {
		key := strings.Repeat("key", i%3) + strconv.Itoa(10000+i)
		l = append(l, value(key, 2, "x"), gone(key, 1))
		keys[key] = true
	}
	slices.SortFunc(l, func(a, b api.Entry) int {
		if ahead(a, b) {
			return -1
		}
		return 1
	})
	x := table(t, l, 4096)
	filter := plainFilter(keys)
	not := 0
	for i := range 20000 {
		key := strings.Repeat("key", i%3) + strconv.Itoa(i)
		if x.May(key) != plainMay(filter, key) {
			t.Errorf("P703: May(%q) = %v", key, x.May(key))
		}
		if keys[key] && !x.May(key) {
			t.Errorf("P704: May(%q) is false, but it is there", key)
		}
		if _, is := x.Get(key, greatest); is != keys[key] || is && !x.May(key) {
			t.Errorf("P703: Get(%q) = %v, May %v", key, is, x.May(key))
		}
		if !x.May(key) {
			not++
		}
	}
	if not < 18000 {
		t.Errorf("P703: May is false of %d keys alone", not)
	}
}

func TestP703TheFourBitsOfAKey(t *testing.T) {
	// Of the one Key "a" in 64 bits, worked out by hand: its bits are those in the bytes 2, 3 and 6.
	x := open(t, plainParts(row("a 1 x")).bytes())
	may := 0
	for i := range 1 << 16 {
		key := strconv.Itoa(i)
		if x.May(key) != plainMay(unhex("00 00 01 00 00 00 01 00"), key) {
			t.Errorf("P703: May(%q) = %v", key, x.May(key))
		}
		if x.May(key) {
			may++
		}
	}
	if !x.May("a") || may == 0 {
		t.Errorf("P703: May of %d keys beside the one that is there", may)
	}
}

func TestP703OfNothing(t *testing.T) {
	for what, x := range map[string]*sst.Table{"no entries": table(t, nil, 1), "a Table that was not opened": new(sst.Table)} {
		tells(t, x, nil)
		for _, key := range []string{"", "a", strings.Repeat("k", 1<<16)} {
			if x.May(key) {
				t.Errorf("P703: of %s May(%q) is true", what, key)
			}
		}
	}
}
