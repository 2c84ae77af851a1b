package manifest

import (
	"math"

	"glacier/api"
	"glacier/codec"
)

const (
	maxNumber = 1 << 40 // each number of an edit but Seq, at most
	maxTables = 1 << 16 // tables of a version, and items of an edit's list, at most
)

// Encode, Decode write and read an edit.
func Encode(e api.Edit) []byte {
	var w writer
	w.number(uint64(len(e.Add)))
	for _, t := range e.Add {
		w.table(t)
	}
	w.number(uint64(len(e.Drop)))
	for _, file := range e.Drop {
		w.number(uint64(file))
	}
	w.number(e.Seq)
	w.number(uint64(e.Next))
	w.number(uint64(e.Wal))
	return w.b
}

func Decode(b []byte) (api.Edit, api.Errno) {
	r := reader{rest: b}
	e := r.edit()
	if r.err == api.OK && len(r.rest) > 0 {
		r.err = api.ErrForm
	}
	if r.err != api.OK {
		return api.Edit{}, r.err
	}
	return e, api.OK
}

// writer has what was written. Each part is made by itself, for codec copies what it is to write behind.
type writer struct {
	b []byte
}

func (w *writer) table(t api.Table) {
	w.number(uint64(t.File))
	w.number(uint64(t.Level))
	w.text(t.First)
	w.text(t.Last)
	w.number(uint64(t.Size))
}

func (w *writer) number(v uint64) { w.b = append(w.b, codec.Number(nil, v)...) }

func (w *writer) text(s string) { w.b = append(w.b, codec.Bytes(nil, []byte(s))...) }

// reader reads what stands at the front of the rest of some bytes. err is that of the first part that is wrong:
// once there is one, nothing more is read.
type reader struct {
	rest []byte
	err  api.Errno
}

func (r *reader) edit() api.Edit {
	var e api.Edit
	for n := r.number(maxTables); n > 0 && r.err == api.OK; n-- {
		e.Add = append(e.Add, r.table())
	}
	for n := r.number(maxTables); n > 0 && r.err == api.OK; n-- {
		e.Drop = append(e.Drop, r.int())
	}
	e.Seq = r.number(math.MaxUint64)
	e.Next = r.int()
	e.Wal = r.int()
	return e
}

func (r *reader) table() api.Table {
	var t api.Table
	t.File = r.int()
	t.Level = r.int()
	t.First = r.text()
	t.Last = r.text()
	t.Size = r.int()
	return t
}

func (r *reader) int() int { return int(r.number(maxNumber)) }

func (r *reader) number(most uint64) uint64 {
	if r.err != api.OK {
		return 0
	}
	v, n, err := codec.ReadNumber(r.rest)
	if err == api.OK && v > most {
		err = api.ErrForm
	}
	r.pass(n, err)
	return v
}

func (r *reader) text() string {
	if r.err != api.OK {
		return ""
	}
	b, n, err := codec.ReadBytes(r.rest, api.MaxValue)
	r.pass(n, err)
	return string(b)
}

// pass goes on behind n bytes that were read, or could not be.
func (r *reader) pass(n int, err api.Errno) {
	r.rest, r.err = r.rest[n:], err
}
