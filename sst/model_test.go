package sst_test

import (
	"bytes"
	"encoding/binary"
	"math/rand"
	"slices"
	"sort"
	"strconv"
	"strings"
	"testing"

	"glacier/api"
	"glacier/sst"
)

// plainOpen reads a table by the chapter's words. What it reads it writes anew, and holds against what is there: so
// it needs no care for the ways in which a number may be written wrongly.
func plainOpen(b []byte) (l []api.Entry, blocks, at int, err api.Errno) {
	end := len(b) - footBytes
	if end < 0 {
		return nil, 0, 0, api.ErrShort
	}
	var foot [3]uint64
	for i := range foot {
		foot[i] = binary.LittleEndian.Uint64(b[end+8*i:])
	}
	if plainSum(b[end:end+24]) != binary.LittleEndian.Uint32(b[end+24:]) {
		return nil, 0, end, api.ErrSum
	}
	if foot[0] >= foot[1] || foot[1] >= uint64(end) {
		return nil, 0, end, api.ErrForm
	}
	var lists [][]api.Entry
	for at < int(foot[0]) {
		entries, size := plainRead(b[at:foot[0]])
		l = append(l, entries...)
		if size == 0 || len(entries) == 0 || !inOrder(l) {
			return nil, 0, at, api.ErrForm
		}
		lists = append(lists, entries)
		at += size
	}
	want := plainParts(lists...)
	switch {
	case !bytes.Equal(b[foot[0]:foot[1]], want.index):
		return nil, 0, int(foot[0]), api.ErrForm
	case !bytes.Equal(b[foot[1]:end], want.filter):
		return nil, 0, int(foot[1]), api.ErrForm
	case foot[2] != uint64(len(l)):
		return nil, 0, end, api.ErrForm
	}
	return l, len(lists), 0, api.OK
}

// plainRead reads the frame at the front of b, and its entries, as far as it may be one.
func plainRead(b []byte) ([]api.Entry, int) {
	size, n := binary.Uvarint(b)
	if n <= 0 || size > api.MaxValue || int(size) > len(b)-n-4 {
		return nil, 0
	}
	payload := b[n+4 : n+4+int(size)]
	if !bytes.HasPrefix(b, plainFrame(payload)) {
		return nil, 0
	}
	var l []api.Entry
	for rest := payload; len(rest) > 0; {
		e := plainReadEntry(rest)
		if !bytes.HasPrefix(rest, plainEntry(e)) || len(e.Key) > 65535 || len(e.Value) > api.MaxValue/2 {
			return nil, 0
		}
		l = append(l, e)
		rest = rest[len(plainEntry(e)):]
	}
	return l, len(plainFrame(payload))
}

// plainReadEntry reads an entry, if there is one at the front of b; else anything that is not there.
func plainReadEntry(b []byte) api.Entry {
	none := api.Entry{Key: string(b) + "none"}
	key, b, is := plainReadBytes(b)
	seq, n := binary.Uvarint(b)
	if !is || n <= 0 || n == len(b) {
		return none
	}
	v, _, is := plainReadBytes(b[n+1:])
	if !is {
		return none
	}
	return api.Entry{Key: string(key), Seq: seq, Gone: b[n] == 1, Value: v}
}

func plainReadBytes(b []byte) (l, rest []byte, is bool) {
	size, n := binary.Uvarint(b)
	if n <= 0 || size > uint64(len(b)-n) {
		return nil, nil, false
	}
	return b[n : n+int(size)], b[n+int(size):], true
}

// ahead tells whether a stands ahead of b.
func ahead(a, b api.Entry) bool {
	if a.Key != b.Key {
		return a.Key < b.Key
	}
	return a.Seq > b.Seq
}

func inOrder(l []api.Entry) bool {
	for i, e := range l {
		if e.Gone && len(e.Value) > 0 || i > 0 && !ahead(l[i-1], e) {
			return false
		}
	}
	return true
}

// anyKey tells one of some keys, those among them that are fronts of others.
func anyKey(draw *rand.Rand) string {
	return strings.Repeat("a", draw.Intn(3)) + []string{"", "b", "\x00", "\xFF", "ab", "c", "d" + strconv.Itoa(draw.Intn(20))}[draw.Intn(7)]
}

func anySeq(draw *rand.Rand) uint64 {
	if draw.Intn(8) == 0 {
		return []uint64{greatest, greatest - 1, 1 << 63, 1<<63 - 1, 127, 128}[draw.Intn(6)]
	}
	return uint64(draw.Intn(6))
}

func anyEntry(draw *rand.Rand) api.Entry {
	if draw.Intn(3) == 0 {
		return gone(anyKey(draw), anySeq(draw))
	}
	return value(anyKey(draw), anySeq(draw), strings.Repeat("v", draw.Intn(4)*draw.Intn(60))+strconv.Itoa(draw.Intn(9)))
}

// anyList tells a list that is right, of up to so many entries.
func anyList(draw *rand.Rand, most int) []api.Entry {
	var l []api.Entry
	for range draw.Intn(most + 1) {
		l = append(l, anyEntry(draw))
	}
	sort.SliceStable(l, func(i, j int) bool { return ahead(l[i], l[j]) })
	return slices.CompactFunc(l, func(a, b api.Entry) bool { return !ahead(a, b) })
}

// anyBlocks parts a list into blocks of any sizes.
func anyBlocks(draw *rand.Rand, l []api.Entry) [][]api.Entry {
	var blocks [][]api.Entry
	for len(l) > 0 {
		n := 1 + draw.Intn(min(len(l), 1+draw.Intn(12)))
		blocks = append(blocks, l[:n])
		l = l[n:]
	}
	return blocks
}

func TestP701ToP704OfAnyLists(t *testing.T) {
	for seed := range 2000 {
		draw := rand.New(rand.NewSource(int64(seed)))
		l := anyList(draw, 80)
		block := 1 + draw.Intn(1+draw.Intn(300))
		blocks := plainBlocks(l, block)
		b := build(t, l, block)
		if !bytes.Equal(b, plainParts(blocks...).bytes()) {
			t.Errorf("P701: Build(%q, %d) is not as it must be", show(l), block)
		}
		has(t, "P704: Open of Build", open(t, b), l, len(blocks))
		blocks = anyBlocks(draw, l)
		has(t, "P702: Open of any blocks", open(t, plainParts(blocks...).bytes()), l, len(blocks))
		if t.Failed() {
			t.Fatalf("seed %d", seed)
		}
	}
}

// asPlain holds Open against the plain reading, and tells whether the bytes are a table.
func asPlain(t *testing.T, b []byte) bool {
	t.Helper()
	l, blocks, at, err := plainOpen(b)
	if err != api.OK {
		wrong(t, "spoilt bytes", b, at, err)
		return false
	}
	has(t, "P702: Open of spoilt bytes", open(t, b), l, blocks)
	return true
}

// refoot writes the Sum of the foot anew.
func refoot(b []byte) []byte {
	end := len(b) - 4
	return binary.LittleEndian.AppendUint32(slices.Clone(b[:end]), plainSum(b[end-24:end]))
}

// reframe changes a byte of a frame's payload, and writes its Sum anew.
func reframe(draw *rand.Rand, frame []byte) []byte {
	_, n := binary.Uvarint(frame)
	payload := slices.Clone(frame[n+4:])
	if len(payload) == 0 {
		return frame
	}
	i := draw.Intn(len(payload))
	switch draw.Intn(4) {
	case 0:
		payload[i] ^= 1 << draw.Intn(8)
	case 1:
		payload[i] = byte(draw.Intn(3))
	case 2:
		payload = slices.Delete(payload, i, i+1)
	case 3:
		payload = slices.Insert(payload, i, byte(draw.Intn(130)))
	}
	return plainFrame(payload)
}

// anySpoilt tells the bytes of a table in which something may be wrong.
func anySpoilt(draw *rand.Rand) []byte {
	l := anyList(draw, 25)
	blocks := anyBlocks(draw, l)
	if len(blocks) > 1 && draw.Intn(4) == 0 { // entries of two blocks change places
		i, j := draw.Intn(len(blocks)), draw.Intn(len(blocks))
		blocks[i], blocks[j] = blocks[j], blocks[i]
	}
	if len(l) > 0 && draw.Intn(4) == 0 {
		l[draw.Intn(len(l))] = anyEntry(draw)
	}
	p := plainParts(blocks...)
	other := plainParts(anyBlocks(draw, l)...)
	switch draw.Intn(8) {
	case 0:
		p.index = other.index
	case 1:
		p.index = reframe(draw, p.index)
	case 2:
		p.filter = reframe(draw, p.filter)
	case 3:
		p.count += uint64(draw.Intn(3)) - 1
	case 4, 5:
		if len(blocks) > 0 {
			i := draw.Intn(len(blocks))
			p = p.withFrame(i, reframe(draw, p.blocks[i]))
		}
	}
	b := p.bytes()
	if draw.Intn(4) == 0 {
		b[draw.Intn(len(b))] ^= 1 << draw.Intn(8)
		b = refoot(b)
	}
	return b
}

func TestP702OfSpoiltTables(t *testing.T) {
	taken := 0
	for seed := range 20000 {
		draw := rand.New(rand.NewSource(int64(seed)))
		if asPlain(t, anySpoilt(draw)) {
			taken++
		}
		if t.Failed() {
			t.Fatalf("seed %d", seed)
		}
	}
	if taken < 2000 || taken > 18000 {
		t.Errorf("%d of 20000 tables were taken", taken)
	}
}

func TestP702OfAnyBytes(t *testing.T) {
	for seed := range 3000 {
		draw := rand.New(rand.NewSource(int64(seed)))
		b := make([]byte, draw.Intn(120))
		for i := range b {
			b[i] = byte(draw.Intn(1 + draw.Intn(256)))
		}
		asPlain(t, b)
		if len(b) >= footBytes {
			index := draw.Intn(len(b))
			places := plainFoot(uint64(index), uint64(index+draw.Intn(20)), uint64(draw.Intn(3)))
			asPlain(t, append(b[:len(b)-footBytes], places...))
		}
		if t.Failed() {
			t.Fatalf("seed %d", seed)
		}
	}
}

// TestP703OfAnyTables holds what a table tells against what its list tells.
func TestP703OfAnyTables(t *testing.T) {
	for seed := range 400 {
		draw := rand.New(rand.NewSource(int64(seed)))
		l := anyList(draw, 60)
		blocks := anyBlocks(draw, l)
		tells(t, open(t, plainParts(blocks...).bytes()), blocks)
		if t.Failed() {
			t.Fatalf("seed %d", seed)
		}
	}
}

func FuzzP702(f *testing.F) {
	for _, p := range tables() {
		f.Add(p.bytes(), false)
		f.Add(p.bytes(), true)
	}
	f.Fuzz(func(t *testing.T, b []byte, mend bool) {
		if mend && len(b) >= footBytes {
			b = refoot(b)
		}
		x, err := sst.Open(b)
		if asPlain(t, b) != (err == nil) || (x != nil) != (err == nil) {
			t.Errorf("P702: %v, %v", x, err)
		}
	})
}
