package lsm_test

import (
	"fmt"
	"math"
	"slices"
	"strings"
	"testing"

	"glacier/api"
)

func TestP1003Get(t *testing.T) {
	x := fresh(t)
	check := func(where string) {
		t.Helper()
		for key, want := range map[string]string{"a": "2", "b": "", "c": "4", "d": "", "": "", "aa": "", "C": ""} {
			b, is := x.Get(key)
			if string(b) != want || is != (want != "") {
				t.Errorf("P1003: %s: Get(%q): %q, %v; want %q", where, key, b, is, want)
			}
		}
		if b, is := x.Get("e"); len(b) != 0 || !is {
			t.Errorf("P1003: %s: Get of a value without bytes: %q, %v", where, b, is)
		}
	}
	apply(t, x, "a=1 b=1 c=1 e=1", "b c", "a=2 c=4 e= d=1", "d")
	check("in memory")
	flush(t, x)
	check("on level 0")
	compacted(t, x)
	check("on level 1")
	for _, level := range []string{"2", "3"} {
		compacted(t, x)
		check("on level " + level)
		holdsTables(t, x, level+" a e")
	}
}

// TestP1003FromEachLevel lets each of the levels have a version that counts, and elder ones below.
func TestP1003FromEachLevel(t *testing.T) {
	x := fresh(t)
	value := strings.Repeat("v", 5000)
	for n := range 7 {
		apply(t, x, fmt.Sprintf("k%d=%s all=%d %s", n, value, n, gones(n)))
		if n < 6 {
			flush(t, x)
		}
		for range 5 - n {
			compacted(t, x)
		}
	}
	var l []string
	for _, p := range x.Version().Tables {
		l = append(l, fmt.Sprint(p.Level))
	}
	if s := strings.Join(slices.Compact(l), " "); s != "0 1 2 3 4 5" {
		t.Fatalf("P1003: there are tables of the levels %s", s)
	}
	if b, is := x.Get("all"); string(b) != "6" || !is {
		t.Errorf("P1003: Get(all): %q, %v", b, is)
	}
	for n := range 7 {
		at(t, "P1003", x, "all", uint64(n+1), fmt.Sprint(n))
		key := fmt.Sprint("k", n)
		at(t, "P1003", x, key, uint64(n), "")
		at(t, "P1003", x, key, uint64(n+1), value)
		if _, is := x.Get(key); is != (n == 6) {
			t.Errorf("P1003: Get(%s): %v", key, is)
		}
	}
	want := "all 7 6, k6 7 "
	if got := entries(x.Scan("", "", 99)); !strings.HasPrefix(got, want+"vvv") || len(got) != len(want+value) {
		t.Errorf("P1003: Scan tells %.20q of %d bytes", got, len(got))
	}
}

// gones tells the word that deletes the key that came ahead of the n-th.
func gones(n int) string {
	if n == 0 {
		return ""
	}
	return fmt.Sprint("k", n-1)
}

func TestP1003At(t *testing.T) {
	x := fresh(t)
	for range 3 {
		x.Hold()
	}
	apply(t, x, "a=1")
	x.Hold()
	apply(t, x, "a=2 b=3")
	apply(t, x, "a")
	x.Hold()
	apply(t, x, "a=4 b")
	for _, step := range []func(){
		func() {},
		func() { flush(t, x) },
		func() { compacted(t, x) },
		func() { compacted(t, x) },
	} {
		step()
		at(t, "P1003", x, "a", 0, "")
		at(t, "P1003", x, "a", 1, "1")
		at(t, "P1003", x, "b", 1, "")
		at(t, "P1003", x, "a", 3, "")
		at(t, "P1003", x, "b", 3, "3")
		at(t, "P1003", x, "a", 4, "4")
		at(t, "P1003", x, "b", 4, "")
		at(t, "P1003", x, "none", 4, "")
		sees(t, "P1003", x, "a 4 4")
	}
}

func TestP1003Scan(t *testing.T) {
	x := fresh(t)
	apply(t, x, "a=1 aa=2 ab=3 aba=4 abb=5 ac=6 b=7 ba=8", "aba=9", "ac ab")
	if _, err := x.Apply(write("", "10"), write("\x00", "11"), write("\xFF", "12"), write("\xFF\xFF", "13")); err != api.OK {
		t.Fatal(err)
	}
	const many = math.MaxInt
	for where, step := range []func(){
		func() {},
		func() { flush(t, x) },
		func() { compacted(t, x) },
		func() { compacted(t, x) },
	} {
		step()
		for _, c := range []struct {
			prefix, after string
			most          int
			want          string
		}{
			{"", "", many, "\x00 4 11, a 1 1, aa 1 2, aba 2 9, abb 1 5, b 1 7, ba 1 8, \xFF 4 12, \xFF\xFF 4 13"},
			{"a", "", many, "a 1 1, aa 1 2, aba 2 9, abb 1 5"},
			{"ab", "", many, "aba 2 9, abb 1 5"},
			{"aba", "", many, "aba 2 9"},
			{"abab", "", many, ""},
			{"ac", "", many, ""},
			{"c", "", many, ""},
			{"\x00", "", many, "\x00 4 11"},
			{"\xFF", "", many, "\xFF 4 12, \xFF\xFF 4 13"},
			{"\xFF\xFF", "", many, "\xFF\xFF 4 13"},
			{"\xFF\xFF\xFF", "", many, ""},
			{"", "a", many, "aa 1 2, aba 2 9, abb 1 5, b 1 7, ba 1 8, \xFF 4 12, \xFF\xFF 4 13"},
			{"", "a\x00", many, "aa 1 2, aba 2 9, abb 1 5, b 1 7, ba 1 8, \xFF 4 12, \xFF\xFF 4 13"},
			{"", "ab", many, "aba 2 9, abb 1 5, b 1 7, ba 1 8, \xFF 4 12, \xFF\xFF 4 13"},
			{"", "ba", many, "\xFF 4 12, \xFF\xFF 4 13"},
			{"", "\xFF", many, "\xFF\xFF 4 13"},
			{"", "\xFF\xFF", many, ""},
			{"", "\x00", many, "a 1 1, aa 1 2, aba 2 9, abb 1 5, b 1 7, ba 1 8, \xFF 4 12, \xFF\xFF 4 13"},
			{"a", "A", many, "a 1 1, aa 1 2, aba 2 9, abb 1 5"},
			{"a", "a", many, "aa 1 2, aba 2 9, abb 1 5"},
			{"a", "aa", many, "aba 2 9, abb 1 5"},
			{"a", "aab", many, "aba 2 9, abb 1 5"},
			{"ab", "a", many, "aba 2 9, abb 1 5"},
			{"ab", "ab", many, "aba 2 9, abb 1 5"},
			{"ab", "aba", many, "abb 1 5"},
			{"a", "abb", many, ""},
			{"a", "az", many, ""},
			{"a", "b", many, ""},
			{"b", "aba", many, "b 1 7, ba 1 8"},
			{"", "", 3, "\x00 4 11, a 1 1, aa 1 2"},
			{"", "a", 1, "aa 1 2"},
			{"ab", "", 1, "aba 2 9"},
			{"ab", "", 2, "aba 2 9, abb 1 5"},
			{"ab", "", 3, "aba 2 9, abb 1 5"},
			{"", "", 0, ""},
			{"a", "", -1, ""},
			{"a", "", math.MinInt, ""},
		} {
			if got := entries(x.Scan(c.prefix, c.after, c.most)); got != c.want {
				t.Errorf("P1003: step %d: Scan(%q, %q, %d): %q; want %q", where, c.prefix, c.after, c.most, got, c.want)
			}
		}
	}
	if b, is := x.Get(""); string(b) != "10" || !is {
		t.Errorf("P1003: Get of the Key without bytes: %q, %v", b, is)
	}
}

// TestP1003ScanOverAllLevels merges what stands in memory, in tables that overlap, and below.
func TestP1003ScanOverAllLevels(t *testing.T) {
	x := fresh(t)
	flushed(t, x, "b=1 d=1 f=1 h=1")
	compacted(t, x)
	flushed(t, x, "a=2 d f=2")
	compacted(t, x)
	flushed(t, x, "b h=3")
	flushed(t, x, "b=4 c=4")
	flushed(t, x, "d=5 e=5")
	apply(t, x, "c e=6", "g=7")
	sees(t, "P1003", x, "a 2 2, b 4 4, d 5 5, e 6 6, f 2 2, g 7 7, h 3 3")
	if got := entries(x.Scan("", "b", 3)); got != "d 5 5, e 6 6, f 2 2" {
		t.Errorf("P1003: %s", got)
	}
	sees(t, "P1003", open(t, x.Disk, calm()), "a 2 2, b 4 4, d 5 5, e 6 6, f 2 2, g 7 7, h 3 3")
}

func TestP1003ScanOfAnEmptyTree(t *testing.T) {
	x := fresh(t)
	for _, most := range []int{math.MinInt, 0, 1, math.MaxInt} {
		if l := x.Scan("", "", most); len(l) != 0 {
			t.Errorf("P1003: %v", l)
		}
	}
	apply(t, x, "a")
	sees(t, "P1003", x, "")
	flush(t, x)
	sees(t, "P1003", x, "")
}

func TestP1003Seq(t *testing.T) {
	x := fresh(t)
	want := func(n uint64) {
		t.Helper()
		if x.Seq() != n {
			t.Errorf("P1003: Seq %d; want %d", x.Seq(), n)
		}
	}
	want(0)
	x = open(t, x.Disk, calm())
	want(0)
	apply(t, x, "a=1", "a", "b")
	want(3)
	x = open(t, x.Disk, calm())
	want(3)
	flush(t, x)
	want(3)
	x = open(t, x.Disk, calm())
	want(3)
	apply(t, x, "c=1")
	want(4)
	x = open(t, x.Disk, calm())
	want(4)
	apply(t, x, "c")
	flush(t, x)
	compacted(t, x)
	// Nothing is left but the number.
	if n := len(x.Scan("", "", 9)); n != 0 {
		t.Errorf("P1003: %d entries", n)
	}
	x = open(t, x.Disk, calm())
	want(5)
	x.Apply(write(strings.Repeat("k", 65536), ""))
	want(5)
	x.Hold()
	x.Release(5)
	x.Sweep()
	want(5)
}
