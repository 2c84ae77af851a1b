package sst_test

import (
	"bytes"
	"encoding/hex"
	"errors"
	"iter"
	"math"
	"strconv"
	"strings"
	"testing"

	"glacier/api"
	"glacier/sst"
)

const greatest = math.MaxUint64

// footBytes is how many bytes a foot has.
const footBytes = 28

// value tells a version that has a Value.
func value(key string, seq uint64, text string) api.Entry {
	return api.Entry{Key: key, Seq: seq, Value: []byte(text)}
}

// gone tells one that is Gone.
func gone(key string, seq uint64) api.Entry {
	return api.Entry{Key: key, Seq: seq, Gone: true}
}

// row tells the versions that a text names, as word tells them.
func row(text string) []api.Entry {
	var l []api.Entry
	if text == "" {
		return l
	}
	for _, w := range strings.Split(text, ", ") {
		part := strings.SplitN(w, " ", 3)
		seq, err := strconv.ParseUint(part[1], 10, 64)
		if err != nil {
			panic("no version: " + w)
		}
		if part[2] == "gone" {
			l = append(l, gone(part[0], seq))
		} else {
			l = append(l, value(part[0], seq, part[2]))
		}
	}
	return l
}

// word tells a version in a few letters: its key, its Seq, and its Value, if it is not gone.
func word(e api.Entry) string {
	s := e.Key + " " + strconv.FormatUint(e.Seq, 10) + " "
	switch {
	case e.Gone && len(e.Value) > 0:
		return s + "gone with the value " + string(e.Value)
	case e.Gone:
		return s + "gone"
	}
	return s + string(e.Value)
}

func show(l []api.Entry) string {
	var words []string
	for _, e := range l {
		words = append(words, word(e))
	}
	return strings.Join(words, ", ")
}

// numbered tells so many entries, of two versions each Key, whose Keys have one length.
func numbered(n int) []api.Entry {
	var l []api.Entry
	for i := range n {
		l = append(l, value("key"+strconv.Itoa(1000+i/2), uint64(9-i%2), "v"+strconv.Itoa(i)))
	}
	return l
}

// unhex tells the bytes that a text of hexadecimal digits tells.
func unhex(text string) []byte {
	b, err := hex.DecodeString(strings.ReplaceAll(text, " ", ""))
	if err != nil {
		panic(err)
	}
	return b
}

// build asks Build for a table.
func build(t *testing.T, l []api.Entry, block int) []byte {
	t.Helper()
	b, err := sst.Build(l, block)
	if err != api.OK {
		t.Fatalf("P701: Build of %d entries, block %d: %v", len(l), block, err)
	}
	return b
}

// refuses asks Build for an error, and nothing beside it.
func refuses(t *testing.T, what string, l []api.Entry, block int, want api.Errno) {
	t.Helper()
	if b, err := sst.Build(l, block); len(b) != 0 || err != want {
		t.Errorf("P701: Build of %s, block %d: %d bytes, %v; want %v", what, block, len(b), err, want)
	}
}

// open asks Open for a table.
func open(t *testing.T, b []byte) *sst.Table {
	t.Helper()
	x, err := sst.Open(b)
	if err != nil || x == nil {
		t.Fatalf("P702: Open of %d bytes: %v, %v", len(b), x, err)
	}
	return x
}

// table tells the table that Build makes, opened.
func table(t *testing.T, l []api.Entry, block int) *sst.Table {
	t.Helper()
	return open(t, build(t, l, block))
}

// has asks a table for its entries, and how many blocks they lie in.
func has(t *testing.T, promise string, x *sst.Table, l []api.Entry, blocks int) {
	t.Helper()
	if x.Len() != len(l) || x.Blocks() != blocks {
		t.Errorf("%s: the table has %d entries in %d blocks; want %d in %d", promise, x.Len(), x.Blocks(), len(l), blocks)
	}
	over(t, promise, x.All(), l)
}

// over asks for what a sequence goes over.
func over(t *testing.T, promise string, seq iter.Seq[api.Entry], want []api.Entry) {
	t.Helper()
	i := 0
	for e := range seq {
		if i == len(want) {
			t.Errorf("%s: a sequence goes on behind %d entries", promise, i)
			return
		}
		if !same(e, want[i]) {
			t.Errorf("%s: a sequence tells %.100q; want %.100q", promise, word(e), word(want[i]))
		}
		i++
	}
	if i != len(want) {
		t.Errorf("%s: a sequence ends behind %d entries; want %d", promise, i, len(want))
	}
}

func same(a, b api.Entry) bool {
	return a.Key == b.Key && a.Seq == b.Seq && a.Gone == b.Gone && bytes.Equal(a.Value, b.Value)
}

// wrong asks Open for what is wrong, where, and for nothing beside it.
func wrong(t *testing.T, what string, b []byte, at int, want api.Errno) {
	t.Helper()
	x, err := sst.Open(b)
	var w *sst.Wrong
	switch {
	case x != nil || err == nil:
		t.Errorf("P702: Open of %s: %v, %v; want %v at %d", what, x, err, want, at)
	case !errors.As(err, &w) || w.At != at || w.Err != want || !errors.Is(err, want):
		t.Errorf("P702: Open of %s: %v; want %v at %d", what, err, want, at)
	}
}
