package manifest_test

import (
	"math"
	"math/big"
	"math/rand"
	"slices"
	"strings"
	"testing"

	"glacier/api"
	"glacier/manifest"
)

func TestP801Encode(t *testing.T) {
	for _, c := range []struct {
		e    api.Edit
		want string
	}{
		{api.Edit{}, "\x00\x00\x00\x00\x00"},
		{api.Edit{Add: []api.Table{}, Drop: []int{}}, "\x00\x00\x00\x00\x00"},
		{add(api.Table{File: 1, Level: 2, First: "a", Last: "bc", Size: 300}), "\x01\x01\x02\x01a\x02bc\xAC\x02\x00\x00\x00\x00"},
		{add(api.Table{}, api.Table{Last: "\x00\xFF"}), "\x02\x00\x00\x00\x00\x00\x00\x00\x00\x02\x00\xFF\x00\x00\x00\x00\x00"},
		{drop(5, 128, 5), "\x00\x03\x05\x80\x01\x05\x00\x00\x00"},
		{api.Edit{Seq: 1, Next: 2, Wal: 3}, "\x00\x00\x01\x02\x03"},
		{api.Edit{Seq: math.MaxUint64, Next: 1 << 40, Wal: 127}, "\x00\x00\xFF\xFF\xFF\xFF\xFF\xFF\xFF\xFF\xFF\x01\x80\x80\x80\x80\x80\x20\x7F"},
		{api.Edit{Next: -1}, "\x00\x00\x00\xFF\xFF\xFF\xFF\xFF\xFF\xFF\xFF\xFF\x01\x00"},
		{api.Edit{Wal: math.MinInt}, "\x00\x00\x00\x00\x80\x80\x80\x80\x80\x80\x80\x80\x80\x01"},
		{drop(-2), "\x00\x01\xFE\xFF\xFF\xFF\xFF\xFF\xFF\xFF\xFF\x01\x00\x00\x00"},
		{add(api.Table{File: -1, Level: -1, Size: -1}), "\x01" + strings.Repeat("\xFF\xFF\xFF\xFF\xFF\xFF\xFF\xFF\xFF\x01", 2) + "\x00\x00\xFF\xFF\xFF\xFF\xFF\xFF\xFF\xFF\xFF\x01\x00\x00\x00\x00"},
	} {
		if b := string(manifest.Encode(c.e)); b != c.want {
			t.Errorf("P801: Encode(%v): %X; want %X", c.e, b, c.want)
		}
	}
}

// numbers are such as an edit may have, and wrong ones, at their bounds.
func numbers() []int {
	return []int{0, 1, 127, 128, 300, 1<<16 - 1, 1 << 16, 1<<16 + 1, 1<<40 - 1, 1 << 40, 1<<40 + 1, math.MaxInt, -1, -128, math.MinInt}
}

func TestP801EncodeByTheWords(t *testing.T) {
	draw := rand.New(rand.NewSource(1))
	for range 3000 {
		var e api.Edit
		any := func() int { return numbers()[draw.Intn(len(numbers()))] }
		key := func() string {
			return strings.Repeat(string([]byte{byte(draw.Intn(256))}), draw.Intn(3)*draw.Intn(100))
		}
		for range draw.Intn(4) {
			e.Add = append(e.Add, api.Table{File: any(), Level: any(), First: key(), Last: key(), Size: any()})
		}
		for range draw.Intn(4) {
			e.Drop = append(e.Drop, any())
		}
		e.Seq, e.Next, e.Wal = uint64(any()), any(), any()
		if b, want := string(manifest.Encode(e)), encode(e); b != want {
			t.Fatalf("P801: Encode(%v): %X; want %X", e, b, want)
		}
		decodes(t, encode(e))
	}
}

// many is an edit of so many tables and so many files.
func many(tables, files int) api.Edit {
	var e api.Edit
	for i := range tables {
		key := string([]byte{byte(i >> 16), byte(i >> 8), byte(i)})
		e.Add = append(e.Add, tab(i, 1+i%2, key, key))
	}
	for i := range files {
		e.Drop = append(e.Drop, 7*i)
	}
	return e
}

func TestP801Many(t *testing.T) {
	const most = 1 << 16
	for _, c := range []struct {
		tables, files int
		want          api.Errno
	}{
		{most - 1, 0, api.OK}, {most, 0, api.OK}, {most + 1, 0, api.ErrForm},
		{0, most, api.OK}, {0, most + 1, api.ErrForm},
		{most, most, api.OK}, {most, most + 1, api.ErrForm}, {most + 1, most, api.ErrForm},
	} {
		e := many(c.tables, c.files)
		b := manifest.Encode(e)
		if string(b) != encode(e) {
			t.Fatalf("P801: Encode of %d tables and %d files is not by the words", c.tables, c.files)
		}
		x, err := manifest.Decode(b)
		if err != c.want || err == api.OK && !sameEdit(x, e) || err != api.OK && !sameEdit(x, api.Edit{}) {
			t.Errorf("P801: Decode of %d tables and %d files: %d, %d, %v; want %v", c.tables, c.files, len(x.Add), len(x.Drop), err, c.want)
		}
	}
}

func TestP801ListsThatAreSaidToBeLong(t *testing.T) {
	for _, ahead := range []string{"", "\x00"} {
		for _, c := range []struct {
			n    uint64
			want api.Errno
		}{
			{1, api.ErrShort}, {1 << 16, api.ErrShort}, {1<<16 + 1, api.ErrForm}, {1 << 40, api.ErrForm}, {1<<40 + 1, api.ErrForm}, {math.MaxInt64, api.ErrForm}, {1 << 63, api.ErrForm}, {math.MaxUint64, api.ErrForm},
		} {
			wrong(t, ahead+number(c.n), c.want)
			if c.want == api.ErrForm {
				wrong(t, ahead+number(c.n)+strings.Repeat("\x00", 999), c.want)
			}
		}
	}
}

// wrong asks that Decode refuses bytes by an error.
func wrong(t *testing.T, b string, want api.Errno) {
	t.Helper()
	if e, err := manifest.Decode([]byte(b)); err != want || !sameEdit(e, api.Edit{}) {
		t.Errorf("P801: Decode(%.99X): %v, %v; want %v", b, e, err, want)
	}
}

func TestP801DecodeOfEncode(t *testing.T) {
	for _, e := range append(some(), drop(0, 1<<40, 7, 7), add(tab(3, 1<<40, "z", "a"), tab(3, 9, strings.Repeat("k", 1000), "")), api.Edit{Seq: 1<<40 + 1}) {
		b := encode(e)
		if x, err := manifest.Decode([]byte(b)); err != api.OK || !sameEdit(x, e) {
			t.Errorf("P801: Decode(Encode(%v)): %v, %v", e, x, err)
		}
		for n := range len(b) {
			wrong(t, b[:n], api.ErrShort)
		}
		for _, behind := range []string{"\x00", "\x01", "\xFF", b, "\x80\x00", strings.Repeat("\xFF", 20)} {
			wrong(t, b+behind, api.ErrForm)
		}
	}
}

func TestP801DecodeOfBytesChanged(t *testing.T) {
	for _, e := range append(some(), many(3, 3)) {
		b := encode(e)
		for i := range b {
			for c := range 256 {
				decodes(t, b[:i]+string([]byte{byte(c)})+b[i+1:])
			}
			decodes(t, b[:i]+b[i+1:])
			decodes(t, b[:i]+"\x80"+b[i:])
			decodes(t, b[:i]+"\x00"+b[i:])
		}
	}
}

func TestP801DecodeOfAnyBytes(t *testing.T) {
	draw := rand.New(rand.NewSource(2))
	right := 0
	for range 200000 {
		b := make([]byte, draw.Intn(24))
		for i := range b {
			b[i] = byte(draw.Intn(3))
			if draw.Intn(16) == 0 {
				b[i] = byte(draw.Intn(256))
			}
		}
		if decodes(t, string(b)) {
			right++
		}
	}
	if right < 1000 {
		t.Errorf("P801: of any bytes only %d were edits", right)
	}
}

// decodes holds Decode against its words, and tells whether the bytes are an edit.
func decodes(t *testing.T, b string) bool {
	t.Helper()
	e, err := manifest.Decode([]byte(b))
	want, wantErr := decode(b)
	if err != wantErr || !sameEdit(e, want) {
		t.Fatalf("P801: Decode(%X): %v, %v; want %v, %v", b, e, err, want, wantErr)
	}
	if err == api.OK && string(manifest.Encode(e)) != b {
		t.Fatalf("P801: Encode(%v): %X; want %X", e, manifest.Encode(e), b)
	}
	return err == api.OK
}

// decode goes by the words of the chapters, and ends by a panic at the first part that is wrong.
func decode(b string) (e api.Edit, err api.Errno) {
	defer func() {
		if p := recover(); p != nil {
			e, err = api.Edit{}, p.(api.Errno)
		}
	}()
	num := func(most uint64) uint64 {
		n := -1
		for i := range min(len(b), 10) {
			if b[i] < 0x80 {
				n = i + 1
				break
			}
		}
		if n < 0 && len(b) < 10 {
			panic(api.ErrShort)
		}
		if n < 0 || n > 1 && b[n-1] == 0 {
			panic(api.ErrCanon)
		}
		v := new(big.Int)
		for i := n - 1; i >= 0; i-- {
			v.Or(v.Lsh(v, 7), big.NewInt(int64(b[i]&0x7F)))
		}
		if !v.IsUint64() {
			panic(api.ErrCanon)
		}
		if v.Uint64() > most {
			panic(api.ErrForm)
		}
		b = b[n:]
		return v.Uint64()
	}
	low := func() int { return int(num(1 << 40)) }
	str := func() string {
		n := num(math.MaxUint64)
		if n > api.MaxValue {
			panic(api.ErrLong)
		}
		if n > uint64(len(b)) {
			panic(api.ErrShort)
		}
		s := b[:n]
		b = b[n:]
		return s
	}
	for range num(1 << 16) {
		file, level := low(), low()
		first, last := str(), str()
		e.Add = append(e.Add, api.Table{File: file, Level: level, First: first, Last: last, Size: low()})
	}
	for range num(1 << 16) {
		e.Drop = append(e.Drop, low())
	}
	e.Seq = num(math.MaxUint64)
	e.Next = low()
	e.Wal = low()
	if b != "" {
		panic(api.ErrForm)
	}
	return e, api.OK
}

// part is one of an edit's, as it is right, with the kind of part that it is.
type part struct {
	kind, right string
}

// parts are those of an edit of two tables and two files.
func parts() []part {
	table := []part{{"low", number(3)}, {"low", number(1)}, {"text", text("k")}, {"text", text("")}, {"low", number(300)}}
	return slices.Concat(
		[]part{{"list", number(2)}}, table, table,
		[]part{{"list", number(2)}, {"low", number(0)}, {"low", number(1 << 40)}},
		[]part{{"seq", number(math.MaxUint64)}, {"low", number(1 << 40)}, {"low", number(0)}},
	)
}

// spoilt are the ways in which a part of a kind may be wrong.
func spoilt(kind string) map[string]api.Errno {
	m := map[string]api.Errno{"\x80\x00": api.ErrCanon, "\x81\x80\x00": api.ErrCanon, strings.Repeat("\xFF", 10): api.ErrCanon, strings.Repeat("\xFF", 9) + "\x02": api.ErrCanon}
	switch kind {
	case "list":
		m[number(1<<16+1)] = api.ErrForm
		m[number(1<<40)] = api.ErrForm
		m[number(math.MaxUint64)] = api.ErrForm
	case "low":
		m[number(1<<40+1)] = api.ErrForm
		m[number(1<<63)] = api.ErrForm
		m[number(math.MaxUint64)] = api.ErrForm
	case "text":
		m[number(api.MaxValue+1)] = api.ErrLong
		m[number(math.MaxUint64)] = api.ErrLong
	}
	return m
}

func TestP801ThePartThatIsWrong(t *testing.T) {
	all := parts()
	joined := func(l []part) string {
		s := ""
		for _, p := range l {
			s += p.right
		}
		return s
	}
	if _, err := manifest.Decode([]byte(joined(all))); err != api.OK {
		t.Fatalf("P801: Decode of the right parts: %v", err)
	}
	for i, p := range all {
		ahead, behind := joined(all[:i]), joined(all[i+1:])
		for bad, want := range spoilt(p.kind) {
			wrong(t, ahead+bad, want)
			wrong(t, ahead+bad+behind, want)
			wrong(t, ahead+bad+behind+"behind", want)
			// What is wrong behind the first wrong part is not told.
			for other := range spoilt("list") {
				wrong(t, ahead+bad+other+other, want)
			}
		}
		wrong(t, ahead, api.ErrShort)
		wrong(t, ahead+"\x80", api.ErrShort)
		wrong(t, ahead+strings.Repeat("\xFF", 9), api.ErrShort)
		if p.kind == "text" {
			wrong(t, ahead+number(api.MaxValue), api.ErrShort)
			wrong(t, ahead+number(999)+behind, api.ErrShort)
		}
	}
}

func TestP801Bounds(t *testing.T) {
	one := api.Table{File: 1, Level: 1, First: "a", Last: "b", Size: 1}
	places := map[string]func(n int) api.Edit{
		"File":  func(n int) api.Edit { x := one; x.File = n; return add(one, x) },
		"Level": func(n int) api.Edit { x := one; x.Level = n; return add(x, one) },
		"Size":  func(n int) api.Edit { x := one; x.Size = n; return add(one, x, one) },
		"Drop":  func(n int) api.Edit { return drop(1, n, 2) },
		"Next":  func(n int) api.Edit { return api.Edit{Next: n, Wal: 1} },
		"Wal":   func(n int) api.Edit { return api.Edit{Next: 1, Wal: n} },
	}
	for place, edit := range places {
		for _, n := range numbers() {
			want := api.OK
			if n < 0 || n > 1<<40 {
				want = api.ErrForm
			}
			x, err := manifest.Decode(manifest.Encode(edit(n)))
			if err != want || err == api.OK && !sameEdit(x, edit(n)) || err != api.OK && !sameEdit(x, api.Edit{}) {
				t.Errorf("P801: Decode of %s %d: %v, %v; want %v", place, n, x, err, want)
			}
		}
	}
	for _, n := range numbers() {
		e := api.Edit{Seq: uint64(n), Wal: 3}
		if x, err := manifest.Decode(manifest.Encode(e)); err != api.OK || !sameEdit(x, e) {
			t.Errorf("P801: Decode of Seq %d: %v, %v", uint64(n), x, err)
		}
	}
}

func TestP801LongTexts(t *testing.T) {
	longest := strings.Repeat("k", api.MaxValue)
	for _, c := range []struct {
		first, last string
		want        api.Errno
	}{
		{longest, "", api.OK}, {"", longest, api.OK}, {longest + "k", "", api.ErrLong}, {"", longest + "k", api.ErrLong},
	} {
		e := add(tab(1, 2, c.first, c.last))
		b := manifest.Encode(e)
		if want := 1 + 2 + 1 + 4 + max(len(c.first), len(c.last)) + 1 + 4; len(b) != want {
			t.Errorf("P801: Encode of %d and %d bytes: %d bytes; want %d", len(c.first), len(c.last), len(b), want)
		}
		x, err := manifest.Decode(b)
		if err != c.want || err == api.OK && !sameEdit(x, e) || err != api.OK && !sameEdit(x, api.Edit{}) {
			t.Errorf("P801: Decode of texts of %d and %d bytes: %v; want %v", len(c.first), len(c.last), err, c.want)
		}
	}
}
