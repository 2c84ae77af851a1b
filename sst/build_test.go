package sst_test

import (
	"bytes"
	"math"
	"math/rand"
	"slices"
	"strconv"
	"strings"
	"testing"

	"glacier/api"
	"glacier/sst"
)

// TestP701Examples holds Build to bytes that were worked out by hand; the first is the chapter's example.
func TestP701Examples(t *testing.T) {
	for _, c := range []struct {
		entries string
		least   int // of the block bytes by which these are the blocks
		most    int
		want    string
	}{
		{"", 1, api.MaxValue,
			"00 00 00 00 00" +
				"08 8a b2 28 8c 00 00 00 00 00 00 00 00" +
				"00 00 00 00 00 00 00 00 05 00 00 00 00 00 00 00 00 00 00 00 00 00 00 00 fb 4d f3 b0"},
		{"a 1 x", 1, api.MaxValue,
			"06 cb 99 54 99 01 61 01 00 01 78" +
				"04 f7 a3 cb 8f 01 61 00 0b" +
				"08 e4 41 ba 70 00 00 01 00 00 00 01 00" +
				"0b 00 00 00 00 00 00 00 14 00 00 00 00 00 00 00 01 00 00 00 00 00 00 00 bb 9d fa 16"},
		{"a 300 xy, a 2 gone, b 1 ", 9, 13,
			"0d 12 00 23 d8 01 61 ac 02 00 02 78 79 01 61 02 01 00" +
				"05 0a e3 c6 1b 01 62 01 00 00" +
				"08 06 b3 92 d2 01 61 00 12 01 62 12 0a" +
				"08 c9 77 41 a0 10 00 01 00 00 80 41 20" +
				"1c 00 00 00 00 00 00 00 29 00 00 00 00 00 00 00 03 00 00 00 00 00 00 00 c4 42 75 af"},
	} {
		l, want := row(c.entries), unhex(c.want)
		for _, block := range []int{c.least, c.most} {
			if b := build(t, l, block); !bytes.Equal(b, want) {
				t.Errorf("P701: Build(%q, %d) = % x; want % x", c.entries, block, b, want)
			}
		}
		open(t, want)
		if block := c.least - 1; block > 0 && bytes.Equal(build(t, l, block), want) {
			t.Errorf("P701: Build(%q, %d) has the blocks of %d", c.entries, block, c.least)
		}
		if block := c.most + 1; block <= api.MaxValue && bytes.Equal(build(t, l, block), want) {
			t.Errorf("P701: Build(%q, %d) has the blocks of %d", c.entries, block, c.most)
		}
	}
	if b := build(t, nil, 10); len(b) != 5+13+28 {
		t.Errorf("P701: Build of no entries has %d bytes; want 46", len(b))
	}
}

// plain asks for just the bytes that the chapter's words tell.
func plain(t *testing.T, l []api.Entry, block int) {
	t.Helper()
	want := plainParts(plainBlocks(l, block)...).bytes()
	if b := build(t, l, block); !bytes.Equal(b, want) {
		t.Errorf("P701: Build(%.300q, %d) = %.1000x; want %.1000x", show(l), block, b, want)
	}
}

func TestP701PlainlyWrittenDown(t *testing.T) {
	for _, l := range [][]api.Entry{
		nil, {}, row("a 1 x"), row("a 1 gone"), {{}}, {value("", greatest, ""), gone("", 0)},
		row("a 5 x, a 3 y, a 1 z, b 2 gone"), numbered(1), numbered(2), numbered(3), numbered(100),
		{value("\x00", 127, ""), value("\x00\x00", 128, "\x00"), value("\xFF", 1<<63, "\xFF")},
		{value(strings.Repeat("k", 127), 1, strings.Repeat("v", 128)), value(strings.Repeat("k", 128), 1, strings.Repeat("v", 127))},
		{value("a", 1, strings.Repeat("v", 1<<14)), value("b", 1, ""), value("c", 1, strings.Repeat("v", 1<<14-1))},
	} {
		for _, block := range []int{1, 2, 3, 5, 6, 7, 12, 13, 14, 50, 100, 1000, 1 << 14, 1 << 20, api.MaxValue - 1, api.MaxValue} {
			plain(t, l, block)
		}
	}
}

// TestP701WhenABlockIsFull: entries of thirteen bytes each are laid into blocks of all sizes about those that some of
// them just fill.
func TestP701WhenABlockIsFull(t *testing.T) {
	l := numbered(40)[:10] // 7 bytes of Key, and its length; Seq; flag; 2 of Value, and its length
	if n := len(plainEntry(l[0])); n != 13 {
		t.Fatalf("an entry has %d bytes", n)
	}
	for block := 1; block < 150; block++ {
		each := (block + 12) / 13
		want := (len(l) + each - 1) / each
		x := table(t, l, block)
		if x.Blocks() != want || x.Len() != len(l) {
			t.Errorf("P701: block %d: %d blocks of %d entries; want %d", block, x.Blocks(), x.Len(), want)
		}
		plain(t, l, block)
	}
}

// TestP701OneThatRunsOver: a block takes the entry by which it has enough, however great that one is.
func TestP701OneThatRunsOver(t *testing.T) {
	long := strings.Repeat("v", 1000)
	for _, c := range []struct {
		l     []api.Entry
		block int
		want  int
	}{
		{[]api.Entry{value("a", 1, ""), value("b", 1, long), value("c", 1, "")}, 5, 3},
		{[]api.Entry{value("a", 1, ""), value("b", 1, long), value("c", 1, "")}, 6, 2},
		{[]api.Entry{value("a", 1, ""), value("b", 1, long), value("c", 1, "")}, 1011, 2},
		{[]api.Entry{value("a", 1, ""), value("b", 1, long), value("c", 1, "")}, 1012, 1},
		{[]api.Entry{value("a", 1, long)}, 1, 1},
		{[]api.Entry{value("a", 1, long), value("b", 1, long)}, 1, 2},
	} {
		if x := table(t, c.l, c.block); x.Blocks() != c.want || x.Len() != len(c.l) {
			t.Errorf("P701: block %d: %d blocks of %d entries; want %d", c.block, x.Blocks(), x.Len(), c.want)
		}
		plain(t, c.l, c.block)
	}
}

func TestP701VersionsOfOneKeyOverBlocks(t *testing.T) {
	var l []api.Entry
	for i := range 30 {
		l = append(l, value("key", uint64(100-i), strconv.Itoa(i)))
	}
	l = append(l, gone("key", 1), value("other", 1, ""))
	for _, block := range []int{1, 9, 20, 60, 1000} {
		plain(t, l, block)
		x := table(t, l, block)
		has(t, "P701", x, l, len(plainBlocks(l, block)))
		for _, e := range l {
			if got, is := x.Get(e.Key, e.Seq); !is || !same(got, e) {
				t.Errorf("P703: block %d: Get(%q, %d) = %q, %v", block, e.Key, e.Seq, word(got), is)
			}
		}
	}
}

// TestP701BytesOfTheFilter: it grows by unlike Keys, not by versions.
func TestP701BytesOfTheFilter(t *testing.T) {
	for _, c := range []struct{ keys, bytes int }{
		{0, 8}, {1, 8}, {6, 8}, {7, 9}, {8, 10}, {9, 12}, {10, 13}, {11, 14}, {12, 15}, {13, 17}, {100, 125}, {103, 129}, {1001, 1252},
	} {
		for _, versions := range []int{1, 3} {
			var l []api.Entry
			for i := range c.keys {
				for v := range versions {
					l = append(l, value("key"+strconv.Itoa(10000+i), uint64(versions-v), ""))
				}
			}
			b := build(t, l, 64)
			foot := b[len(b)-footBytes:]
			if size := len(b) - footBytes - int(foot[8]) - int(foot[9])<<8 - int(foot[10])<<16; size != len(plainFrame(make([]byte, c.bytes))) {
				t.Errorf("P701: the filter's frame of %d Keys has %d bytes; want it of %d", c.keys, size, c.bytes)
			}
			plain(t, l, 64)
		}
	}
}

func TestP701BlockBytesThatMayNotBe(t *testing.T) {
	for _, block := range []int{0, -1, -2, math.MinInt, api.MaxValue + 1, api.MaxValue + 2, math.MaxInt} {
		for _, l := range [][]api.Entry{nil, row("a 1 x"), numbered(9)} {
			refuses(t, "a right list", l, block, api.ErrArg)
		}
	}
}

// notRight are lists that are not Right, each by one thing.
func notRight() map[string][]api.Entry {
	with := api.Entry{Key: "b", Seq: 2, Gone: true, Value: []byte("x")}
	return map[string][]api.Entry{
		"a Seq that rises":                row("a 1 x, a 2 y"),
		"a Seq that rises, last":          row("a 5 x, b 4 x, b 3 gone, b 9 x"),
		"a Key that falls":                row("b 1 x, a 1 x"),
		"a Key that falls to its front":   row("ab 1 x, a 1 x"),
		"a Key that falls to none":        row("a 1 x,  1 x"),
		"a Key that falls, last":          row("a 3 x, b 2 x, d 1 x, c 1 x"),
		"a Key that comes again":          row("a 3 x, b 2 x, a 1 x"),
		"a Key of bytes that fall":        {value("\x80", 1, ""), value("\x7F", 1, "")},
		"a Seq that rises from 0":         {value("a", 0, ""), value("a", greatest, "")},
		"the same twice":                  row("a 1 x, a 1 x"),
		"the same twice, one gone":        row("a 1 x, a 1 gone"),
		"gone with a Value, alone":        {with},
		"gone with a Value, in the midst": {value("a", 1, "x"), with, value("c", 1, "x")},
		"gone with a Value, last":         {value("a", 1, "x"), value("b", 3, "x"), with},
	}
}

func TestP701ListsThatAreNotRight(t *testing.T) {
	for what, l := range notRight() {
		for _, block := range []int{1, 7, 1000, api.MaxValue} {
			refuses(t, what, l, block, api.ErrOrder)
		}
	}
}

func TestP701TooLong(t *testing.T) {
	key := strings.Repeat("k", 1<<16-1)
	for _, c := range []struct {
		what string
		l    []api.Entry
	}{
		{"a Key of 65536 bytes", []api.Entry{gone(key+"k", 1)}},
		{"one last", []api.Entry{value("a", 1, "x"), value("b", 1, "x"), gone(key+"k", 1)}},
		{"one first", []api.Entry{gone(key+"k", 1), value("l", 1, "x")}},
		{"a Key of more bytes", []api.Entry{gone(key+key, 1)}},
	} {
		refuses(t, c.what, c.l, 100, api.ErrLong)
	}
	l := []api.Entry{value(key[1:], 2, "x"), value(key, 2, "x"), value(key, 1, "x")}
	for _, block := range []int{1, 100, 1 << 17, 1 << 18} {
		plain(t, l, block)
		has(t, "P701", table(t, l, block), l, len(plainBlocks(l, block)))
	}
}

func TestP701ValuesAtTheBound(t *testing.T) {
	long := make([]byte, api.MaxValue/2+1)
	long[0], long[api.MaxValue/2-1] = 1, 2
	for _, l := range [][]api.Entry{
		{{Key: "a", Seq: 1, Value: long}},
		{value("a", 1, "x"), {Key: "b", Seq: 1, Value: long}, value("c", 1, "x")},
	} {
		refuses(t, "a Value of MaxValue / 2 and a byte", l, 100, api.ErrLong)
		for i := range l {
			if len(l[i].Value) == len(long) {
				l[i].Value = long[:api.MaxValue/2]
			}
		}
		x := table(t, l, 6)
		has(t, "P701", x, l, len(l))
	}
}

func TestP6ErrorsInTheirOrder(t *testing.T) {
	key := strings.Repeat("k", 1<<16)
	long := []api.Entry{value(key, 1, "x")}
	longAndNotRight := []api.Entry{value(key, 1, "x"), value("b", 1, "x"), value("a", 1, "x")}
	refuses(t, "a list that is not right", row("b 1 x, a 1 x"), 0, api.ErrArg)
	refuses(t, "a list with a long Key", long, api.MaxValue+1, api.ErrArg)
	refuses(t, "a list with a long Key that is not right behind it", longAndNotRight, -1, api.ErrArg)
	refuses(t, "a list with a long Key that is not right behind it", longAndNotRight, 1, api.ErrOrder)
	refuses(t, "a long Key that is gone with a Value", []api.Entry{{Key: key, Gone: true, Value: []byte("x")}}, 1, api.ErrOrder)
}

// TestP704BlocksOfMaxValueBytes: one of just so many is read back; one of more, which Build makes, too, is no frame
// that can be read.
func TestP704BlocksOfMaxValueBytes(t *testing.T) {
	long := make([]byte, api.MaxValue/2)
	head := len(plainEntry(api.Entry{Key: "a", Seq: 1, Value: long})) - len(long)
	l := []api.Entry{{Key: "a", Seq: 1, Value: long}, {Key: "b", Seq: 1, Value: long[:len(long)-2*head]}}
	b := build(t, l, api.MaxValue)
	has(t, "P704", open(t, b), l, 1)
	l[1].Value = long[:len(long)-2*head+1]
	b = build(t, l, api.MaxValue)
	if !bytes.Equal(b, plainParts(l).bytes()) {
		t.Error("P701: a block of MaxValue bytes and one is not as it must be")
	}
	wrong(t, "a block of MaxValue bytes and one", b, 0, api.ErrForm)
	has(t, "P704", table(t, l, api.MaxValue/2), l, 2)
}

// TestP704AnIndexOfMoreThanMaxValueBytes: what is told of blocks is not told of it.
func TestP704AnIndexOfMoreThanMaxValueBytes(t *testing.T) {
	key := strings.Repeat("k", 1<<16-3)
	var l []api.Entry
	for i := range 1026 {
		l = append(l, value(key+string([]byte{byte(i >> 8), byte(i)}), 1, ""))
	}
	b := build(t, l, 1)
	x := open(t, b)
	if x.Len() != len(l) || x.Blocks() != len(l) {
		t.Errorf("P704: %d entries in %d blocks; want %d in as many", x.Len(), x.Blocks(), len(l))
	}
	if e, is := x.Get(l[1025].Key, 1); !is || !same(e, l[1025]) {
		t.Error("P704: the last one is not told")
	}
}

func TestP3TheSameCallsAnswerTheSame(t *testing.T) {
	run := func() []byte {
		var all []byte
		for seed := range 50 {
			draw := rand.New(rand.NewSource(int64(seed)))
			b, _ := sst.Build(anyList(draw, 60), 1+draw.Intn(100))
			all = append(all, b...)
			x, err := sst.Open(b)
			if err != nil {
				t.Fatalf("P704: seed %d: %v", seed, err)
			}
			all = append(all, show(slices.Collect(x.All()))...)
		}
		return all
	}
	if !bytes.Equal(run(), run()) {
		t.Error("P3: two runs of the same calls tell unlike things")
	}
}
