package sst

import (
	"bytes"

	"glacier/api"
	"glacier/codec"
	"glacier/merge"
)

// read tells the table that b is, or what is wrong with it. Of the index and the filter there is just one way
// that they may be, so they are made anew and held against what is there.
func read(b []byte) (*Table, *Wrong) {
	end := len(b) - footBytes
	if end < 0 {
		return nil, &Wrong{At: 0, Err: api.ErrShort}
	}
	f, err := readFoot(b[end:], end)
	if err != api.OK {
		return nil, &Wrong{At: end, Err: err}
	}
	t, x := &Table{}, index{}
	for x.next < int(f.index) {
		if !t.take(b[x.next:f.index:f.index], &x) {
			return nil, &Wrong{At: x.next, Err: api.ErrForm}
		}
	}
	t.filter = filterOf(t.entries)
	switch {
	case !bytes.Equal(b[f.index:f.filter], codec.Frame(x.rows)):
		return nil, &Wrong{At: int(f.index), Err: api.ErrForm}
	case !bytes.Equal(b[f.filter:end], codec.Frame(t.filter)):
		return nil, &Wrong{At: int(f.filter), Err: api.ErrForm}
	case f.count != uint64(len(t.entries)):
		return nil, &Wrong{At: end, Err: api.ErrForm}
	}
	return t, nil
}

// take takes the block at the front of b into the table and its index, and tells whether it may stand there.
func (t *Table) take(b []byte, x *index) bool {
	payload, size, err := codec.ReadFrame(b)
	if err != api.OK || len(payload) == 0 {
		return false
	}
	was := len(t.entries)
	s := scan{rest: payload}
	for len(s.rest) > 0 {
		e := s.entry()
		if s.bad {
			return false
		}
		t.entries = append(t.entries, e)
	}
	// The last entry ahead of the block is looked at again, for the block's first one must stand behind it.
	if !merge.Right(t.entries[max(was-1, 0):]) {
		return false
	}
	x.add(t.entries[was].Key, size)
	t.blocks++
	return true
}

// scan reads what stands at the front of the rest of some bytes. It is bad, once that was not to be read.
type scan struct {
	rest []byte
	bad  bool
}

func (s *scan) entry() api.Entry {
	var e api.Entry
	e.Key = string(s.bytes(longestKey))
	e.Seq = s.number()
	e.Gone = s.flag()
	e.Value = s.bytes(longestValue)
	return e
}

func (s *scan) bytes(most int) []byte {
	l, n, err := codec.ReadBytes(s.rest, most)
	s.pass(n, err == api.OK)
	return l
}

func (s *scan) number() uint64 {
	v, n, err := codec.ReadNumber(s.rest)
	s.pass(n, err == api.OK)
	return v
}

func (s *scan) flag() bool {
	if len(s.rest) == 0 || s.rest[0] > 1 {
		s.pass(0, false)
		return false
	}
	set := s.rest[0] == 1
	s.pass(1, true)
	return set
}

// pass goes on behind n bytes that were read, or could not be.
func (s *scan) pass(n int, is bool) {
	s.rest = s.rest[n:]
	s.bad = s.bad || !is
}
