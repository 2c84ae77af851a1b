package mem_test

import (
	"math"
	"slices"
	"strings"
	"testing"

	"glacier/api"
	"glacier/mem"
)

func TestP502TheExample(t *testing.T) {
	for _, draws := range someDraws() {
		x := table(draws, value("a", 1, "x"), gone("a", 3), value("b", 2, "y"))
		got(t, x, "a", 2, "a 1 x")
		got(t, x, "a", 9, "a 3 gone")
		is(t, "P503", x, "3, 53: a 3 gone, a 1 x, b 2 y")
	}
}

func TestP501ATableWithoutVersions(t *testing.T) {
	for _, draws := range someDraws() {
		x := mem.New(draws...)
		is(t, "P501", x, "0, 0: ")
		if x.Height() != 0 {
			t.Errorf("P503: a table without versions is %d high; want 0", x.Height())
		}
		for _, key := range []string{"", "a", "\xFF"} {
			over(t, "P503", x.From(key), "")
			for _, up := range []uint64{0, 1, greatest} {
				got(t, x, key, up, "")
			}
		}
	}
}

func TestP501TheHeightOfADraw(t *testing.T) {
	for draw, want := range map[int]int{
		math.MinInt: 1, math.MinInt + 1: 1, -25: 1, -24: 1, -23: 1, -13: 1, -12: 1, -11: 1, -2: 1, -1: 1,
		0: 1, 1: 2, 2: 3, 3: 4, 9: 10, 10: 11, 11: 12, 12: 1, 13: 2, 14: 3, 22: 11, 23: 12, 24: 1, 25: 2,
		1<<32 + 1: 1 + (1<<32+1)%12, math.MaxInt - 1: 7, math.MaxInt: 8,
	} {
		x := mem.New(draw)
		for _, key := range []string{"b", "a", "c", "b"} {
			x.Put(value(key, 1, ""))
			if x.Height() != want {
				t.Errorf("P501: of the draw %d the tower is %d high; want %d", draw, x.Height(), want)
			}
		}
	}
}

// heights asks for the height behind the put of each key.
func heights(t *testing.T, draws []int, keys string, want ...int) {
	t.Helper()
	x := mem.New(draws...)
	var l []int
	for _, key := range strings.Split(keys, "") {
		x.Put(value(key, 1, "x"))
		l = append(l, x.Height())
	}
	if !slices.Equal(l, want) {
		t.Errorf("P501: with the draws %v the puts of %s make heights of %v; want %v", draws, keys, l, want)
	}
}

func TestP501TheHeightBehindEachPut(t *testing.T) {
	heights(t, nil, "abc", 1, 1, 1)
	heights(t, []int{}, "cba", 1, 1, 1)
	heights(t, []int{4}, "acb", 5, 5, 5)
	heights(t, []int{0, 2, 1, 11, 5}, "abcde", 1, 3, 3, 12, 12)
	heights(t, []int{0, 2, 1, 11, 5}, "edcba", 1, 3, 3, 12, 12)
	heights(t, []int{-1, 12, 13, 0, 5}, "cbdae", 1, 1, 2, 2, 6)
	// more new versions than draws, and more draws than new versions
	heights(t, []int{0, 3}, "acebd", 1, 4, 4, 4, 4)
	heights(t, []int{0, 1, 2, 3, 4}, "ab", 1, 2)
}

func TestP501EachNewVersionHasADrawOfItsOwn(t *testing.T) {
	for _, keys := range []string{"abcdefgh", "hgfedcba", "dbfhaceg"} {
		for at := range 8 {
			draws, want := make([]int, 8), make([]int, 8)
			draws[at] = 6
			for i := range want {
				want[i] = 1
				if i >= at {
					want[i] = 7
				}
			}
			heights(t, draws, keys, want...)
		}
	}
}

func TestP501AVersionPutAgainTakesNoDraw(t *testing.T) {
	heights(t, []int{0, 4, 9}, "aabbabcc", 1, 1, 5, 5, 5, 5, 10, 10)
	heights(t, []int{3, 0, 9}, "aaaaba", 4, 4, 4, 4, 4, 4)
	heights(t, []int{0, 0, 0, 11}, "abcabcabcd", 1, 1, 1, 1, 1, 1, 1, 1, 1, 12)
	// a version of the same Key, but of another Seq, is a new one
	x := table([]int{0, 4, 9}, value("a", 1, ""), value("a", 2, ""))
	if x.Height() != 5 {
		t.Errorf("P501: behind a 1, a 2 the height is %d; want 5", x.Height())
	}
}

func TestP502PutAgain(t *testing.T) {
	for _, draws := range someDraws() {
		x := table(draws, value("b", 2, "y"), value("a", 1, "x"), gone("a", 3))
		high := x.Height()
		for _, c := range []struct {
			e    api.Entry
			want string
		}{
			{value("a", 1, "long"), "3, 56: a 3 gone, a 1 long, b 2 y"},
			{value("a", 1, ""), "3, 52: a 3 gone, a 1 , b 2 y"},
			{value("a", 1, ""), "3, 52: a 3 gone, a 1 , b 2 y"},
			{value("b", 2, "zz"), "3, 53: a 3 gone, a 1 , b 2 zz"},
			{gone("b", 2), "3, 51: a 3 gone, a 1 , b 2 gone"},
			{value("a", 3, "here"), "3, 55: a 3 here, a 1 , b 2 gone"},
			{gone("b", 2), "3, 55: a 3 here, a 1 , b 2 gone"},
			{value("b", 2, "y"), "3, 56: a 3 here, a 1 , b 2 y"},
			{gone("a", 1), "3, 56: a 3 here, a 1 gone, b 2 y"},
			{gone("a", 3), "3, 52: a 3 gone, a 1 gone, b 2 y"},
		} {
			x.Put(c.e)
			is(t, "P502", x, c.want)
			got(t, x, c.e.Key, c.e.Seq, word(c.e))
			if x.Height() != high {
				t.Errorf("P502: put again, the height is %d; want %d", x.Height(), high)
			}
		}
	}
}

func TestP502AValueOfWhatIsGoneIsPassedOver(t *testing.T) {
	with := gone("a", 1)
	with.Value = []byte("value")
	x := table(nil, with)
	is(t, "P502", x, "1, 17: a 1 gone")
	got(t, x, "a", 1, "a 1 gone")
	x = table(nil, value("a", 1, "x"), with)
	is(t, "P502", x, "1, 17: a 1 gone")
	x.Put(value("a", 1, "xy"))
	is(t, "P502", x, "1, 19: a 1 xy")
	x.Put(with)
	is(t, "P502", x, "1, 17: a 1 gone")
}

func TestP502GetOfEachSeq(t *testing.T) {
	for _, draws := range someDraws() {
		x := table(draws, value("b", 4, "x"), gone("b", 8), value("b", 6, ""), value("a", 1, "l"), value("a", 7, "l"), value("c", 0, "r"), value("c", 9, "r"))
		want := []string{"", "", "", "", "b 4 x", "b 4 x", "b 6 ", "b 6 ", "b 8 gone", "b 8 gone", "b 8 gone"}
		for up, w := range want {
			got(t, x, "b", uint64(up), w)
		}
		got(t, x, "b", greatest, "b 8 gone")
		got(t, x, "a", 0, "")
		got(t, x, "a", 5, "a 1 l")
		got(t, x, "c", 8, "c 0 r")
		got(t, x, "", greatest, "")
		got(t, x, "aa", greatest, "")
		got(t, x, "d", greatest, "")
	}
}

func TestP502SeqsAtTheEnds(t *testing.T) {
	for _, draws := range someDraws() {
		x := table(draws, value("a", greatest, "end"), value("a", 0, "begin"), value("b", 1<<63, "half"), gone("b", 1<<63-1))
		is(t, "P503", x, "4, 80: a 18446744073709551615 end, a 0 begin, b 9223372036854775808 half, b 9223372036854775807 gone")
		got(t, x, "a", greatest, "a 18446744073709551615 end")
		got(t, x, "a", greatest-1, "a 0 begin")
		got(t, x, "a", 0, "a 0 begin")
		got(t, x, "b", greatest, "b 9223372036854775808 half")
		got(t, x, "b", 1<<63, "b 9223372036854775808 half")
		got(t, x, "b", 1<<63-1, "b 9223372036854775807 gone")
		got(t, x, "b", 1<<63-2, "")
		over(t, "P503", x.From("a"), "a 18446744073709551615 end, a 0 begin, b 9223372036854775808 half, b 9223372036854775807 gone")
	}
}

func TestP502KeysThatAreFronts(t *testing.T) {
	keys := []string{"", "\x00", "\x00\x00", "a", "a\x00", "aa", "ab", "b", "\x7F", "\x80", "\xFF", "\xFFa", "\xFF\xFF"}
	for _, draws := range someDraws() {
		x := mem.New(draws...)
		for i := range keys {
			key := keys[i*5%len(keys)]
			x.Put(value(key, 2, "2"))
			x.Put(gone(key, 1))
		}
		var want []string
		for _, key := range keys {
			want = append(want, word(value(key, 2, "2")), word(gone(key, 1)))
		}
		for i, key := range keys {
			got(t, x, key, 9, want[2*i])
			got(t, x, key, 1, want[2*i+1])
			got(t, x, key, 0, "")
			over(t, "P503", x.From(key), strings.Join(want[2*i:], ", "))
			over(t, "P503", x.From(key+"\x00\x00\x00"), strings.Join(behind(keys, want, key+"\x00\x00\x00"), ", "))
			got(t, x, key+"\x00\x00\x00", 9, "")
		}
		over(t, "P503", x.All(), strings.Join(want, ", "))
	}
}

// behind tells the words of those keys that do not stand ahead of one; each key has two words.
func behind(keys, words []string, from string) []string {
	for i, key := range keys {
		if key >= from {
			return words[2*i:]
		}
	}
	return nil
}

func TestP503From(t *testing.T) {
	for _, draws := range someDraws() {
		x := table(draws, value("bb", 5, "x"), gone("bb", 7), value("d", 1, "y"), value("f", greatest, "z"), value("f", 0, ""))
		f := "f 18446744073709551615 z, f 0 "
		d := "d 1 y, " + f
		all := "bb 7 gone, bb 5 x, " + d
		for key, want := range map[string]string{
			"": all, "a": all, "b": all, "bb": all, "ba\xFF": all, "bb\x00": d, "bbb": d, "c": d, "d": d,
			"d\x00": f, "e": f, "f": f, "f\x00": "", "g": "", "\xFF": "",
		} {
			over(t, "P503", x.From(key), want)
		}
	}
}

func TestP503LenAndSize(t *testing.T) {
	x := mem.New(1, 0, 2)
	for _, c := range []struct {
		e    api.Entry
		want string
	}{
		{value("", 0, ""), `1, 16: "" 0 `},
		{value("", 0, "abc"), `1, 19: "" 0 abc`},
		{gone("", 0), `1, 16: "" 0 gone`},
		{gone("key", 0), `2, 35: "" 0 gone, key 0 gone`},
		{value("key", 1, "12"), `3, 56: "" 0 gone, key 1 12, key 0 gone`},
		{value("key", 0, "3"), `3, 57: "" 0 gone, key 1 12, key 0 3`},
		{value("key", 1, "4"), `3, 56: "" 0 gone, key 1 4, key 0 3`},
	} {
		x.Put(c.e)
		is(t, "P503", x, c.want)
	}
	x.Put(value(strings.Repeat("k", api.MaxKey), 9, strings.Repeat("v", 1<<20)))
	if x.Len() != 4 || x.Size() != 56+api.MaxKey+1<<20+16 {
		t.Errorf("P503: %d versions of %d bytes; want 4 of %d", x.Len(), x.Size(), 56+api.MaxKey+1<<20+16)
	}
}

func TestP1PutsOfAnyData(t *testing.T) {
	long := strings.Repeat("\xFF", 1<<16)
	for _, draws := range someDraws() {
		x := mem.New(draws...)
		for _, key := range []string{"", "\x00", "\xFF", long, long + "\x00"} {
			for _, seq := range []uint64{0, 1, 1 << 63, greatest} {
				x.Put(api.Entry{Key: key, Seq: seq})
				x.Put(api.Entry{Key: key, Seq: seq, Gone: true, Value: []byte(long)})
				x.Put(api.Entry{Key: key, Seq: seq, Value: []byte{}})
				got(t, x, key, seq, word(value(key, seq, "")))
			}
		}
		if want := 4*(1+1+len(long)+len(long)+1) + 20*16; x.Len() != 20 || x.Size() != want {
			t.Errorf("P503: %d versions of %d bytes; want 20 of %d", x.Len(), x.Size(), want)
		}
	}
}
