package sst_test

import (
	"bytes"
	"encoding/binary"
	"errors"
	"fmt"
	"math"
	"slices"
	"strconv"
	"strings"
	"testing"

	"glacier/api"
	"glacier/sst"
)

// tables are some that Build makes, with the parts that they have.
func tables() map[string]parts {
	l := numbered(20)
	return map[string]parts{
		"no entries":          plainParts(),
		"one entry":           plainParts(row("a 1 x")),
		"one that is gone":    plainParts(row("a 1 gone")),
		"one of no Key":       plainParts([]api.Entry{{}}),
		"one block":           plainParts(row("a 5 x, a 3 y, a 1 z, b 2 gone")),
		"a block each":        plainParts(row("a 5 x"), row("a 3 y"), row("a 1 z"), row("b 2 gone")),
		"blocks of 7":         plainParts(l[:7], l[7:14], l[14:]),
		"blocks of any":       plainParts(l[:1], l[1:8], l[8:9], l[9:19], l[19:]),
		"a long block ahead":  plainParts(l[:19], l[19:]),
		"a long block behind": plainParts(l[:1], l[1:]),
	}
}

// entriesOf tells the entries of a table by the plain reading.
func entriesOf(t *testing.T, b []byte) []api.Entry {
	t.Helper()
	l, _, _, err := plainOpen(b)
	if err != api.OK {
		t.Fatalf("the plain reading tells %v", err)
	}
	return l
}

// TestP702TablesOfUnlikeBlocks: whatever bytes each block was asked for.
func TestP702TablesOfUnlikeBlocks(t *testing.T) {
	for what, p := range tables() {
		b := p.bytes()
		x, err := sst.Open(b)
		if err != nil {
			t.Errorf("P702: Open of %s: %v", what, err)
			continue
		}
		has(t, "P702: "+what, x, entriesOf(t, b), len(p.blocks))
	}
}

func TestP702FewerBytesThanAFoot(t *testing.T) {
	for n := range footBytes {
		wrong(t, strconv.Itoa(n)+" bytes 0", make([]byte, n), 0, api.ErrShort)
		wrong(t, strconv.Itoa(n)+" bytes of a foot", plainFoot(0, 5, 0)[:n], 0, api.ErrShort)
		wrong(t, "the first "+strconv.Itoa(n)+" of a table", plainParts(row("a 1 x")).bytes()[:n], 0, api.ErrShort)
	}
	wrong(t, "nil", nil, 0, api.ErrShort)
}

// TestP702Fronts: what stands at a front's end is no foot. (At a back's end it is, but what it tells lies elsewhere.)
func TestP702Fronts(t *testing.T) {
	for what, p := range tables() {
		b := p.bytes()
		for n := footBytes; n < len(b); n++ {
			wrong(t, "a front of "+what, b[:n], n-footBytes, api.ErrSum)
		}
		for n := 1; n <= p.footAt(); n++ {
			if x, err := sst.Open(b[n:]); x != nil || err == nil {
				t.Errorf("P702: Open of %s without its first %d bytes: %v, %v", what, n, x, err)
			}
		}
	}
}

// TestP704OneByteChanged: what is wrong begins where the part begins in which the byte is.
func TestP704OneByteChanged(t *testing.T) {
	for what, p := range tables() {
		b := p.bytes()
		for i := range b {
			at, want := 0, api.ErrForm
			for j := range len(p.blocks) + 3 {
				if p.at(j) <= i {
					at = p.at(j)
				}
			}
			if i >= p.footAt() {
				want = api.ErrSum
			}
			for change := 1; change < 256; change++ {
				bad := bytes.Clone(b)
				bad[i] ^= byte(change)
				wrong(t, what+" with byte "+strconv.Itoa(i)+" changed", bad, at, want)
			}
			if t.Failed() {
				return
			}
		}
	}
}

func TestP702BytesBehindATable(t *testing.T) {
	for what, p := range tables() {
		b := p.bytes()
		wrong(t, what+" and a byte", append(b, 0), len(b)+1-footBytes, api.ErrSum)
		foot := b[len(b)-footBytes:]
		wrong(t, what+" and its foot", slices.Concat(b, foot), p.filterAt(), api.ErrForm)
		wrong(t, what+" and a byte ahead of the foot", slices.Concat(b[:p.footAt()], []byte{0}, foot), p.filterAt(), api.ErrForm)
	}
}

func TestP702PlacesInTheFoot(t *testing.T) {
	b := plainParts(row("a 1 x"), row("b 1 y")).bytes()
	body := b[:len(b)-footBytes]
	end := uint64(len(body))
	for _, c := range [][2]uint64{
		{0, 0}, {1, 0}, {5, 5}, {6, 5}, {end, end}, {0, end}, {end - 1, end}, {end, end - 1}, {0, end + 1}, {0, end + 27}, {0, end + 28},
		{end, 0}, {end + 1, end + 2}, {end + 5, 9}, {0, 1 << 31}, {0, 1 << 32}, {0, 1 << 63}, {0, greatest}, {0, greatest - end},
		{1 << 63, 20}, {greatest, 20}, {greatest - 1, greatest}, {1 << 63, 1<<63 + 1}, {1 << 32, 1<<32 + 5},
		{greatest - 5, 9}, {greatest, 0}, {greatest, greatest},
	} {
		bad := slices.Concat(body, plainFoot(c[0], c[1], 2))
		wrong(t, fmt.Sprint("a table with the places ", c), bad, len(body), api.ErrForm)
	}
	for _, c := range [][2]uint64{{0, 0}, {0, 1}, {1, 0}, {1, 2}, {0, 28}, {greatest, greatest}} {
		wrong(t, fmt.Sprint("a foot alone, with the places ", c), plainFoot(c[0], c[1], 0), 0, api.ErrForm)
	}
}

// TestP702PlacesThatPointElsewhere: in a right order, but not where the parts begin.
func TestP702PlacesThatPointElsewhere(t *testing.T) {
	p := plainParts(row("a 1 x"), row("b 1 y"))
	b := p.bytes()
	body := b[:len(b)-footBytes]
	for index := range p.footAt() - 1 {
		for filter := index + 1; filter < p.footAt(); filter++ {
			at := index
			switch {
			case index == p.indexAt() && filter == p.filterAt():
				continue
			case index == p.indexAt(): // and the index ends too early or too late
			case index < p.at(1) && index > 0:
				at = 0 // the first block ends too early
			case index < p.indexAt() && index > p.at(1):
				at = p.at(1)
			case index > p.indexAt():
				at = p.indexAt() // there stands no block
			}
			bad := slices.Concat(body, plainFoot(uint64(index), uint64(filter), 2))
			wrong(t, fmt.Sprintf("places %d and %d", index, filter), bad, at, api.ErrForm)
		}
	}
}

// badPayloads are those that no block may have, wherever it stands.
func badPayloads() map[string][]byte {
	key := strings.Repeat("k", 1<<16)
	good := plainEntry(value("m", 7, "xyz"))
	with := api.Entry{Key: "m", Seq: 7, Gone: true, Value: []byte("x")}
	return map[string][]byte{
		"no entries":                         nil,
		"a byte":                             {0},
		"a byte left over":                   append(plainEntry(value("m", 7, "x")), 0),
		"most of an entry left over":         slices.Concat(good, plainEntry(value("n", 7, "xyz"))[:7]),
		"a number without an end left over":  append(plainEntry(value("m", 7, "x")), 0x80),
		"a Key that is cut off":              {5, 'm'},
		"a Key alone":                        {1, 'm'},
		"a Seq without an end":               {1, 'm', 0x87},
		"no flag":                            {1, 'm', 7},
		"no Value":                           {1, 'm', 7, 0},
		"a Value that is cut off":            {1, 'm', 7, 0, 3, 'x', 'y'},
		"flag 2":                             {1, 'm', 7, 2, 0},
		"flag 255":                           {1, 'm', 7, 255, 0},
		"flag 128, 0":                        {1, 'm', 7, 128, 0, 0},
		"a Key's length of two bytes":        {0x81, 0, 'm', 7, 0, 1, 'x'},
		"a Seq of two bytes":                 {1, 'm', 0x87, 0, 0, 1, 'x'},
		"a Value's length of two bytes":      {1, 'm', 7, 0, 0x81, 0, 'x'},
		"a Value's length 0 of two bytes":    {1, 'm', 7, 0, 0x80, 0},
		"a Seq of ten bytes, above 64 bits":  {1, 'm', 0xFF, 0xFF, 0xFF, 0xFF, 0xFF, 0xFF, 0xFF, 0xFF, 0xFF, 2, 0, 0},
		"a Seq of eleven bytes":              {1, 'm', 0x80, 0x80, 0x80, 0x80, 0x80, 0x80, 0x80, 0x80, 0x80, 0x80, 1, 0, 0},
		"a Key's length of 2^64 - 1":         append(binary.AppendUvarint(nil, math.MaxUint64), "m\x07\x00\x00"...),
		"a Value's length of 2^63":           append([]byte{1, 'm', 7, 0}, binary.AppendUvarint(nil, 1<<63)...),
		"a Key of 65536 bytes":               plainEntry(value(key, 7, "")),
		"a Key of 65536 bytes behind others": slices.Concat(plainEntry(value("j", 7, "")), plainEntry(value(key, 7, ""))),
		"gone with a Value":                  plainEntry(with),
		"gone with a Value behind others":    slices.Concat(plainEntry(value("l", 7, "")), plainEntry(with)),
		"gone with a Value ahead of others":  slices.Concat(plainEntry(with), plainEntry(value("n", 7, ""))),
		"a Seq that rises":                   plainPayload(row("m 7 x, m 8 x")),
		"the same twice":                     plainPayload(row("m 7 x, m 7 x")),
		"the same twice, one gone":           plainPayload(row("m 7 gone, m 7 x")),
		"a Key that falls":                   plainPayload(row("n 7 x, m 6 x")),
		"a Key that falls, last":             plainPayload(row("l 7 x, m 7 x, n 7 x, m 6 x")),
		"a Key that falls, first":            plainPayload(row("n 7 x, m 7 x, mm 7 x, o 6 x")),
		"a Seq that rises in the midst":      plainPayload(row("l 7 x, m 7 x, m 9 x, o 6 x")),
	}
}

func TestP702PayloadsThatMayNotBe(t *testing.T) {
	three := plainParts(row("a 5 x, a 4 y"), row("m 9 z"), row("x 9 z"))
	for what, payload := range badPayloads() {
		wrong(t, "a block with "+what, plainParts(row("m 9 z")).withBlock(0, payload).bytes(), 0, api.ErrForm)
		for i := range 3 {
			p := three.withBlock(i, payload)
			for _, count := range []uint64{0, p.count, p.count + 1} {
				p.count = count
				wrong(t, "a table with "+what+" in block "+strconv.Itoa(i), p.bytes(), p.at(i), api.ErrForm)
			}
		}
	}
}

func TestP702AValueOfTooManyBytes(t *testing.T) {
	long := make([]byte, api.MaxValue/2+1)
	p := plainParts(row("a 1 x"), []api.Entry{{Key: "b", Seq: 1, Value: long}})
	wrong(t, "a Value of MaxValue / 2 and a byte", p.bytes(), p.at(1), api.ErrForm)
	p = plainParts(row("a 1 x"), []api.Entry{{Key: "b", Seq: 1, Value: long[1:]}})
	open(t, p.bytes())
}

// TestP702FramesThatMayNotBe: what stands in a block's place is no frame, or one that runs past the index's place.
func TestP702FramesThatMayNotBe(t *testing.T) {
	payload := plainPayload(row("m 9 z"))
	good := plainFrame(payload)
	spoilt := bytes.Clone(good)
	spoilt[2] ^= 1
	for what, frame := range map[string][]byte{
		"a Sum that does not fit":     spoilt,
		"a length of two bytes":       slices.Concat([]byte{good[0] | 0x80, 0}, good[1:]),
		"a length of 0 in two bytes":  {0x80, 0, 0, 0, 0, 0},
		"a length without an end":     bytes.Repeat([]byte{0x80}, 11),
		"a length of 2^64 - 1":        slices.Concat(binary.AppendUvarint(nil, math.MaxUint64), good[1:]),
		"a length above MaxValue":     slices.Concat(binary.AppendUvarint(nil, api.MaxValue+1), good[1:]),
		"a frame without entries":     plainFrame(nil),
		"such, and a right one":       slices.Concat(plainFrame(nil), good),
		"its payload alone":           payload,
		"five bytes 0":                make([]byte, 5),
		"another Sum":                 slices.Concat(good[:1], []byte{0, 0, 0, 0}, payload),
		"the Sum, the highest first":  slices.Concat(good[:1], []byte{good[4], good[3], good[2], good[1]}, payload),
		"the Sum ahead of the length": slices.Concat(good[1:5], good[:1], payload),
	} {
		for i := range 3 {
			p := plainParts(row("a 5 x, a 4 y"), row("m 9 z"), row("x 9 z")).withFrame(i, frame)
			wrong(t, what+" in place of block "+strconv.Itoa(i), p.bytes(), p.at(i), api.ErrForm)
		}
	}
	for n := 1; n < len(good); n++ {
		p := plainParts(row("a 5 x, a 4 y"), row("m 9 z")).withFrame(1, good[:n])
		wrong(t, "a front of a frame as the last block", p.bytes(), p.at(1), api.ErrForm)
	}
	p := plainParts(row("a 5 x, a 4 y"), row("m 9 z")).withFrame(1, append(bytes.Clone(good), 0))
	wrong(t, "a byte behind the last block", p.bytes(), p.at(2)-1, api.ErrForm)
}

// TestP702OrderFromBlockToBlock: each is right alone, and wrong behind the one ahead.
func TestP702OrderFromBlockToBlock(t *testing.T) {
	for _, c := range []struct {
		first, next string
		is          bool
	}{
		{"a 3 x", "a 2 x", true},
		{"a 3 x", "b 9 x", true},
		{"a 0 x", "a\x00 9 x", true},
		{"a 3 x", "a 3 x", false},
		{"a 3 x", "a 3 gone", false},
		{"a 3 x", "a 4 x", false},
		{"b 3 x", "a 3 x", false},
		{"b 3 x", "a 2 x, c 1 x", false},
		{"a 9 x, b 3 x, b 1 x", "b 2 x", false},
		{"a 9 x, c 3 x", "b 3 x, d 3 x", false},
		{"ab 3 x", "a 2 x", false},
	} {
		p := plainParts(row("A 1 x"), row(c.first), row(c.next), row("x 1 x"))
		if c.is {
			has(t, "P702", open(t, p.bytes()), entriesOf(t, p.bytes()), 4)
		} else {
			wrong(t, fmt.Sprintf("a table with the blocks %q, %q", c.first, c.next), p.bytes(), p.at(2), api.ErrForm)
		}
	}
}

// TestP702AnotherIndex: it must be just that of the blocks.
func TestP702AnotherIndex(t *testing.T) {
	l := row("a 5 x, a 3 y, b 1 z, c 2 gone")
	right := plainParts(l[:2], l[2:])
	at := func(key string, place, size uint64) []byte {
		return binary.AppendUvarint(binary.AppendUvarint(plainBytes([]byte(key)), place), size)
	}
	end := uint64(right.at(1))
	last := uint64(right.at(2)) - end
	first, next := at("a", 0, end), at("b", end, last)
	if !bytes.Equal(right.index, plainFrame(slices.Concat(first, next))) {
		t.Fatal("the index is not as it was thought to be")
	}
	spoilt := bytes.Clone(right.index)
	spoilt[1] ^= 1
	for what, index := range map[string][]byte{
		"of one block":             plainParts(l).index,
		"of a block each":          plainParts(l[:1], l[1:2], l[2:3], l[3:]).index,
		"of other blocks":          plainParts(l[:3], l[3:]).index,
		"of no blocks":             plainFrame(nil),
		"without the last one":     plainFrame(first),
		"without the first one":    plainFrame(next),
		"turned round":             plainFrame(slices.Concat(next, first)),
		"with one twice":           plainFrame(slices.Concat(first, next, next)),
		"of another first Key":     plainFrame(slices.Concat(at("A", 0, end), next)),
		"of a front of a Key":      plainFrame(slices.Concat(first, at("", end, last))),
		"of the last Key":          plainFrame(slices.Concat(first, at("c", end, last))),
		"of another place":         plainFrame(slices.Concat(first, at("b", end+1, last))),
		"of another size":          plainFrame(slices.Concat(first, at("b", end, last-1))),
		"of payloads' sizes":       plainFrame(slices.Concat(at("a", 0, end-5), at("b", end, last-5))),
		"of a place in two bytes":  plainFrame(slices.Concat([]byte{1, 'a', 0x80, 0, byte(end)}, next)),
		"and a byte in its frame":  plainFrame(slices.Concat(first, next, []byte{0})),
		"and a byte behind it":     append(bytes.Clone(right.index), 0),
		"cut off":                  right.index[:len(right.index)-1],
		"a byte":                   {0},
		"without a frame":          slices.Concat(first, next),
		"with a Sum that does not": spoilt,
		"a length of two bytes":    slices.Concat([]byte{right.index[0] | 0x80, 0}, right.index[1:]),
		"the filter":               right.filter,
	} {
		p := right
		p.index = index
		wrong(t, "a table with an index "+what, p.bytes(), p.indexAt(), api.ErrForm)
	}
	none := plainParts()
	none.index = plainFrame([]byte{0, 0, 0})
	wrong(t, "no blocks, but an index of one", none.bytes(), 0, api.ErrForm)
}

// TestP702AnotherFilter: it must be just that of the Keys.
func TestP702AnotherFilter(t *testing.T) {
	l := row("a 5 x, a 3 y, b 1 z, c 2 gone")
	right := plainParts(l[:2], l[2:])
	bits := right.filter[5:]
	turned := bytes.Clone(bits)
	slices.Reverse(turned)
	frames := map[string][]byte{
		"of fewer Keys":         plainParts(l[:2]).filter,
		"of more Keys":          plainParts(row("a 1 x, b 1 x, c 1 x, d 1 x")).filter,
		"of no Keys":            plainParts().filter,
		"of many Keys":          plainParts(numbered(30)).filter,
		"with all bits":         plainFrame(bytes.Repeat([]byte{0xFF}, 8)),
		"of a byte more":        plainFrame(append(bytes.Clone(bits), 0)),
		"of a byte less":        plainFrame(bits[:7]),
		"of twice as many bits": plainFrame(slices.Concat(bits, bits)),
		"turned round":          plainFrame(turned),
		"of nothing":            plainFrame(nil),
		"and a byte behind it":  append(bytes.Clone(right.filter), 0),
		"cut off":               right.filter[:len(right.filter)-1],
		"a byte":                {0},
		"without a frame":       bits,
		"a length of two bytes": slices.Concat([]byte{0x88, 0}, right.filter[1:]),
		"another Sum":           slices.Concat([]byte{8, 0, 0, 0, 0}, bits),
	}
	for i := range 64 {
		other := bytes.Clone(bits)
		other[i/8] ^= 1 << (i % 8)
		frames["with bit "+strconv.Itoa(i)+" another"] = plainFrame(other)
	}
	for what, filter := range frames {
		p := right
		p.filter = filter
		wrong(t, "a table with a filter "+what, p.bytes(), p.filterAt(), api.ErrForm)
	}
}

func TestP702AnotherCount(t *testing.T) {
	for what, p := range tables() {
		for _, count := range []uint64{0, 1, p.count - 1, p.count + 1, p.count + 1<<32, p.count + 1<<63, greatest, uint64(len(p.blocks))} {
			bad := p
			bad.count = count
			if count != p.count {
				wrong(t, what+", a count of "+strconv.FormatUint(count, 10), bad.bytes(), p.footAt(), api.ErrForm)
			}
		}
	}
}

// TestP702TheFirstThatIsWrong lays tables in which several things are wrong, and mends the first one each time.
func TestP702TheFirstThatIsWrong(t *testing.T) {
	right := plainParts(row("a 1 x"), row("b 1 y"), row("c 1 z"))
	bad := right
	bad.count = 9
	bad.filter = plainParts().filter
	bad.index = plainParts().index
	bad.blocks = slices.Clone(bad.blocks)
	bad.blocks[1] = plainFrame(plainPayload(row("c 9 y, b 1 y"))) // not in order
	bad.blocks[2] = slices.Concat([]byte{7}, bad.blocks[2][1:])   // no frame

	foot := bad.bytes()
	foot[len(foot)-1] ^= 1
	wrong(t, "the Sum", foot, bad.footAt(), api.ErrSum)
	foot = append(foot[:len(foot)-footBytes], plainFoot(0, greatest, 9)...)
	wrong(t, "the places", foot, bad.footAt(), api.ErrForm)
	wrong(t, "block 1", bad.bytes(), bad.at(1), api.ErrForm)
	bad.blocks[1] = right.blocks[1]
	wrong(t, "block 2", bad.bytes(), bad.at(2), api.ErrForm)
	bad.blocks[2] = right.blocks[2]
	wrong(t, "the index", bad.bytes(), bad.indexAt(), api.ErrForm)
	bad.index = right.index
	wrong(t, "the filter", bad.bytes(), bad.filterAt(), api.ErrForm)
	bad.filter = right.filter
	wrong(t, "the count", bad.bytes(), bad.footAt(), api.ErrForm)
	bad.count = right.count
	open(t, bad.bytes())
}

func TestP702WhatIsWrong(t *testing.T) {
	for _, c := range []struct {
		w    sst.Wrong
		want string
	}{
		{sst.Wrong{}, "ok at 0"},
		{sst.Wrong{At: 0, Err: api.ErrShort}, "short at 0"},
		{sst.Wrong{At: 18, Err: api.ErrSum}, "sum at 18"},
		{sst.Wrong{At: 1234567890123, Err: api.ErrForm}, "form at 1234567890123"},
		{sst.Wrong{At: -7, Err: api.ErrBucket}, "bucket at -7"},
		{sst.Wrong{At: math.MaxInt, Err: -1}, "error at 9223372036854775807"},
		{sst.Wrong{At: math.MinInt, Err: api.ErrKey}, "key at -9223372036854775808"},
	} {
		w := c.w
		if s := w.Error(); s != c.want {
			t.Errorf("P702: Error() = %q; want %q", s, c.want)
		}
		if err := w.Unwrap(); err != error(c.w.Err) {
			t.Errorf("P702: Unwrap() of %q = %v; want %v", c.want, err, c.w.Err)
		}
		if w != c.w {
			t.Errorf("P2: Error and Unwrap have changed %v to %v", c.w, w)
		}
	}
}

func TestP702ErrorsThatWrap(t *testing.T) {
	_, err := sst.Open(make([]byte, 27))
	err = fmt.Errorf("table 7: %w", err)
	var w *sst.Wrong
	var n api.Errno
	if !errors.As(err, &w) || w.At != 0 || w.Err != api.ErrShort {
		t.Errorf("P702: by errors.As %v is %v", err, w)
	}
	if !errors.As(err, &n) || n != api.ErrShort || !errors.Is(err, api.ErrShort) {
		t.Errorf("P702: by errors.As %v is %v", err, n)
	}
	if errors.Is(err, api.ErrForm) || errors.Is(err, api.OK) || errors.Unwrap(errors.Unwrap(err)) != error(api.ErrShort) {
		t.Errorf("P702: %v is taken for another error", err)
	}
	if err.Error() != "table 7: short at 0" {
		t.Errorf("P702: %q", err.Error())
	}
}
