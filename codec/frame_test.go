package codec_test

import (
	"bytes"
	"math"
	"math/rand"
	"testing"

	"glacier/api"
	"glacier/codec"
)

// payloads tells some of unlike lengths, at the edges of their numbers too.
func payloads() [][]byte {
	return [][]byte{[]byte("a"), nil, noise(1, 127), noise(2, 128), {}, {0}, noise(3, 300)}
}

func TestP104Frame(t *testing.T) {
	for _, c := range []struct{ payload, want string }{
		{"a", "\x01\x30\x43\xD0\xC1a"},
		{"", "\x00\x00\x00\x00\x00"},
		{"123456789", "\x09\x83\x92\x06\xE3123456789"},
	} {
		if b := codec.Frame([]byte(c.payload)); string(b) != c.want {
			t.Errorf("P104: Frame(%q) = % x; want % x", c.payload, b, c.want)
		}
	}
	if b := codec.Frame(nil); !bytes.Equal(b, make([]byte, 5)) {
		t.Errorf("P104: Frame(nil) = % x; want five bytes 0", b)
	}
}

func TestP104ReadFrame(t *testing.T) {
	for _, c := range []struct {
		b, want string
		n       int
		err     api.Errno
	}{
		{"\x01\x30\x43\xD0\xC1a", "a", 6, api.OK},
		{"\x01\x30\x43\xD0\xC1aa", "a", 6, api.OK},
		{"\x01\x30\x43\xD0\xC1b", "", 0, api.ErrSum},
		{"\x01\xC1\xD0\x43\x30a", "", 0, api.ErrSum},
		{"\x00\x00\x00\x00\x00", "", 5, api.OK},
		{"\x00\x00\x00\x00\x01", "", 0, api.ErrSum},
		{"\x00\x00\x00\x00", "", 0, api.ErrShort},
		{"", "", 0, api.ErrShort},
		{"\x80", "", 0, api.ErrShort},
		{"\x81\x00\x30\x43\xD0\xC1a", "", 0, api.ErrCanon},
		{"\xFF\xFF\xFF\xFF\xFF\xFF\xFF\xFF\xFF\xFF", "", 0, api.ErrCanon},
		{"\x01\x30\x43\xD0\xC1", "", 0, api.ErrShort},
		{"\x01\xFF\xFF\xFF\xFF", "", 0, api.ErrShort},
	} {
		if p, n, err := codec.ReadFrame([]byte(c.b)); string(p) != c.want || n != c.n || err != c.err {
			t.Errorf("P104: ReadFrame(% x) = %q, %d, %v; want %q, %d, %v", c.b, p, n, err, c.want, c.n, c.err)
		}
	}
}

func TestP104LengthsOfFrames(t *testing.T) {
	for _, c := range []struct {
		v    uint64
		want api.Errno
	}{
		{api.MaxValue - 1, api.ErrShort},
		{api.MaxValue, api.ErrShort},
		{api.MaxValue + 1, api.ErrLong},
		{math.MaxInt64, api.ErrLong},
		{math.MaxUint64, api.ErrLong},
	} {
		for _, tail := range []string{"", "abcd", "abcde"} {
			b := append(codec.Number(nil, c.v), tail...)
			if p, n, err := codec.ReadFrame(b); len(p) != 0 || n != 0 || err != c.want {
				t.Errorf("P104: a length of %d and %q: %q, %d, %v; want %v", c.v, tail, p, n, err, c.want)
			}
		}
	}
}

func TestP104PayloadAtTheBound(t *testing.T) {
	p := make([]byte, api.MaxValue+1)
	p[0], p[api.MaxValue-1] = 1, 2
	b := codec.Frame(p[:api.MaxValue])
	if q, n, err := codec.ReadFrame(b); !bytes.Equal(q, p[:api.MaxValue]) || n != len(b) || err != api.OK {
		t.Errorf("P104: MaxValue bytes are read back as %d, %d, %v", len(q), n, err)
	}
	b = codec.Frame(p)
	if q, n, err := codec.ReadFrame(b); len(q) != 0 || n != 0 || err != api.ErrLong {
		t.Errorf("P104: MaxValue bytes and one are read back as %d, %d, %v; want long", len(q), n, err)
	}
	if l, n, err := codec.ReadFrames(b); len(l) != 0 || n != 0 || err != api.ErrLong {
		t.Errorf("P104: MaxValue bytes and one: %d frames, %d, %v; want long", len(l), n, err)
	}
}

func TestP104FrontsOfAFrameAreShort(t *testing.T) {
	for _, p := range payloads() {
		b := codec.Frame(p)
		for i := range b {
			if q, n, err := codec.ReadFrame(b[:i]); len(q) != 0 || n != 0 || err != api.ErrShort {
				t.Errorf("P104: %d of %d bytes: %q, %d, %v; want short", i, len(b), q, n, err)
			}
		}
	}
}

func TestP104ChangedBytes(t *testing.T) {
	for _, p := range payloads() {
		b := codec.Frame(p)
		from := len(codec.Number(nil, uint64(len(p))))
		for i := from; i < len(b); i++ {
			for bit := range 8 {
				b[i] ^= 1 << bit
				if q, n, err := codec.ReadFrame(b); len(q) != 0 || n != 0 || err != api.ErrSum {
					t.Fatalf("P104: bit %d of byte %d changed: %q, %d, %v; want sum", bit, i, q, n, err)
				}
				b[i] ^= 1 << bit
			}
		}
	}
}

func TestP104Frames(t *testing.T) {
	if b := codec.Frames(); len(b) != 0 {
		t.Errorf("P104: Frames() = % x; want none", b)
	}
	var want []byte
	for _, p := range payloads() {
		want = append(want, codec.Frame(p)...)
	}
	if b := codec.Frames(payloads()...); !bytes.Equal(b, want) {
		t.Errorf("P104: Frames = % x; want % x", b, want)
	}
}

func TestP104ReadFramesUpToAWrongOne(t *testing.T) {
	ahead := codec.Frames([]byte("x"), nil)
	for _, c := range []struct {
		next string
		err  api.Errno
	}{
		{"", api.OK},
		{"\x01\x30\x43\xD0\xC1b\x00\x00\x00\x00\x00", api.ErrSum},
		{"\x81\x00\x30\x43\xD0\xC1a", api.ErrCanon},
		{"\x81\x80\x80\x20", api.ErrLong},
		{"\x80\x80\x80\x20", api.ErrShort},
		{"\x01\x30\x43\xD0\xC1", api.ErrShort},
		{"\x01\x30", api.ErrShort},
		{"\x80", api.ErrShort},
	} {
		b := append(bytes.Clone(ahead), c.next...)
		l, n, err := codec.ReadFrames(b)
		if len(l) != 2 || string(l[0]) != "x" || len(l[1]) != 0 || n != len(ahead) || err != c.err {
			t.Errorf("P104: ReadFrames(% x) = %q, %d, %v; want two frames, %d, %v", b, l, n, err, len(ahead), c.err)
		}
		if l, n, err = codec.ReadFrames([]byte(c.next)); len(l) != 0 || n != 0 || err != c.err {
			t.Errorf("P104: ReadFrames(% x) = %q, %d, %v; want none, 0, %v", c.next, l, n, err, c.err)
		}
	}
}

func TestP105FramesAreReadBack(t *testing.T) {
	for _, p := range payloads() {
		b := codec.Frame(p)
		if q, n, err := codec.ReadFrame(append(b, 0x80)); !bytes.Equal(q, p) || n != len(b) || err != api.OK {
			t.Errorf("P105: % x is read back as % x, %d, %v", p, q, n, err)
		}
	}
	b := codec.Frames(payloads()...)
	l, n, err := codec.ReadFrames(b)
	if n != len(b) || err != api.OK || len(l) != len(payloads()) {
		t.Fatalf("P105: %d frames, %d, %v; want %d, %d", len(l), n, err, len(payloads()), len(b))
	}
	for i, p := range payloads() {
		if !bytes.Equal(l[i], p) {
			t.Errorf("P105: payload %d: % x; want % x", i, l[i], p)
		}
	}
	if l, n, err = codec.ReadFrames(codec.Frames()); len(l) != 0 || n != 0 || err != api.OK {
		t.Errorf("P105: no frames are read back as %q, %d, %v", l, n, err)
	}
}

func TestP107FrontsOfFrames(t *testing.T) {
	var all []byte
	ends := map[int]int{0: 0} // how many frames end there
	for i, p := range payloads() {
		all = append(all, codec.Frame(p)...)
		ends[len(all)] = i + 1
	}
	whole, behind := 0, 0
	for i := 0; i <= len(all); i++ {
		want := api.ErrShort
		if k, ok := ends[i]; ok {
			whole, behind, want = k, i, api.OK
		}
		l, n, err := codec.ReadFrames(all[:i])
		if len(l) != whole || n != behind || err != want {
			t.Fatalf("P107: a front of %d bytes: %d frames, %d, %v; want %d, %d, %v", i, len(l), n, err, whole, behind, want)
		}
		for j, p := range payloads()[:whole] {
			if !bytes.Equal(l[j], p) {
				t.Fatalf("P107: a front of %d bytes: payload %d: % x", i, j, l[j])
			}
		}
	}
}

// checkReads holds what is read of any bytes against what would be written of it (P105).
func checkReads(t *testing.T, b []byte) {
	t.Helper()
	checkNumber(t, b)
	for _, most := range []int{-1, 0, 3, len(b)} {
		if l, n, err := codec.ReadBytes(b, most); err == api.OK && !bytes.Equal(codec.Bytes(nil, l), b[:n]) || err != api.OK && (len(l) != 0 || n != 0) {
			t.Fatalf("P105: ReadBytes(% x, %d) = % x, %d, %v", b, most, l, n, err)
		}
	}
	if p, n, err := codec.ReadFrame(b); err == api.OK && !bytes.Equal(codec.Frame(p), b[:n]) || err != api.OK && (len(p) != 0 || n != 0) {
		t.Fatalf("P105: ReadFrame(% x) = % x, %d, %v", b, p, n, err)
	}
	l, n, err := codec.ReadFrames(b)
	if !bytes.Equal(codec.Frames(l...), b[:n]) || (err == api.OK) != (n == len(b)) {
		t.Fatalf("P105: ReadFrames(% x) = % x, %d, %v", b, l, n, err)
	}
	if _, _, next := codec.ReadFrame(b[n:]); err != api.OK && next != err {
		t.Fatalf("P104: ReadFrames(% x): %v; the frame at %d: %v", b, err, n, next)
	}
}

func TestP105OfFramesThatWereChanged(t *testing.T) {
	draw := rand.New(rand.NewSource(4))
	whole := codec.Frames([]byte("ab"), nil, noise(5, 130), []byte("c"))
	for range 20000 {
		b := bytes.Clone(whole[:draw.Intn(len(whole)+1)])
		for range draw.Intn(3) {
			if len(b) > 0 {
				b[draw.Intn(len(b))] = byte(draw.Intn(256))
			}
		}
		checkReads(t, b)
	}
}

func FuzzP105(f *testing.F) {
	f.Add([]byte(nil))
	f.Add([]byte("\x80\x00"))
	f.Add(codec.Bytes(nil, []byte("abc")))
	f.Add(codec.Frames(payloads()...))
	f.Fuzz(checkReads)
}

func TestP2FramesLeaveWhatTheyGet(t *testing.T) {
	p, whole := guard(t, "ab")
	scribble(codec.Frame(p))
	scribble(codec.Frames(p, p[:0], p))
	whole()
}

func TestP2ReadFramesTellsNewMemory(t *testing.T) {
	b, whole := guard(t, string(codec.Frames([]byte("ab"), []byte("cd"), nil, []byte("ef"))))
	p, _, _ := codec.ReadFrame(b)
	scribble(p)
	whole()
	l, _, _ := codec.ReadFrames(b)
	if len(l) != 4 {
		t.Fatalf("P104: %q", l)
	}
	scribble(l[0])
	scribble(l[2])
	if string(l[1]) != "cd" || string(l[3]) != "ef" {
		t.Errorf("P2: payloads share memory: %q", l)
	}
	scribble(l[1])
	scribble(l[3])
	whole()
}
