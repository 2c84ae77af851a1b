package gf_test

import (
	"bytes"
	"fmt"
	"slices"
	"testing"

	"glacier/api"
	"glacier/gf"
)

// calls are those that tell a matrix; each is made of what is handed in anew.
func calls() map[string]func(m, o gf.Matrix, n []int) (gf.Matrix, api.Errno) {
	return map[string]func(m, o gf.Matrix, n []int) (gf.Matrix, api.Errno){
		"Unit":       func(m, o gf.Matrix, n []int) (gf.Matrix, api.Errno) { return gf.Unit(3) },
		"Cauchy":     func(m, o gf.Matrix, n []int) (gf.Matrix, api.Errno) { return gf.Cauchy(3, 2) },
		"Times":      func(m, o gf.Matrix, n []int) (gf.Matrix, api.Errno) { return m.Times(o) },
		"Times Unit": func(m, o gf.Matrix, n []int) (gf.Matrix, api.Errno) { return m.Times(unitOf(len(m[0]))) },
		"Unit Times": func(m, o gf.Matrix, n []int) (gf.Matrix, api.Errno) { return unitOf(len(m)).Times(m) },
		"itself":     func(m, o gf.Matrix, n []int) (gf.Matrix, api.Errno) { return m.Times(m) },
		"Inverse":    func(m, o gf.Matrix, n []int) (gf.Matrix, api.Errno) { return m.Inverse() },
		"of Unit":    func(m, o gf.Matrix, n []int) (gf.Matrix, api.Errno) { return unitOf(3).Inverse() },
		"Rows":       func(m, o gf.Matrix, n []int) (gf.Matrix, api.Errno) { return m.Rows(n...) },
		"Apply": func(m, o gf.Matrix, n []int) (gf.Matrix, api.Errno) {
			v, err := m.Apply(o[0])
			return gf.Matrix{v}, err
		},
	}
}

func unitOf(n int) gf.Matrix {
	u, _ := gf.Unit(n)
	return u
}

// handed are what calls are made of: m has an inverse, and its rows are to be put in another order for it.
func handed() (gf.Matrix, gf.Matrix, []int) {
	return gf.Matrix{{0, 2, 3}, {1, 0, 0x80}, {7, 1, 1}}, gf.Matrix{{1, 2, 4}, {0, 9, 5}, {0xFF, 0, 3}}, []int{2, 0, 2, 1, 1}
}

func TestP2WhatIsHandedInIsNotChanged(t *testing.T) {
	for name, call := range calls() {
		x, y, z := handed()
		m, unchangedM := roomy(t, x)
		o, unchangedO := roomy(t, y)
		n := append(z, 9, 9, 9)[:len(z)]
		got, err := call(m, o, n)
		if err != api.OK {
			t.Errorf("P2: %s: %v", name, err)
		}
		gf.Right(m)
		spoilAll(got)
		unchangedM(name)
		unchangedO(name)
		if !slices.Equal(n[:len(n)+3], append(z, 9, 9, 9)) {
			t.Errorf("P2: behind %s the numbers are %v", name, n)
		}
	}
}

// TestP2WhatIsRefusedIsNotChanged goes over calls that answer errors.
func TestP2WhatIsRefusedIsNotChanged(t *testing.T) {
	single := gf.Matrix{{0, 2, 3}, {1, 0, 5}, {1, 2, 6}}
	m, unchanged := roomy(t, single)
	for range 2 {
		if _, err := m.Inverse(); err != api.ErrSingle {
			t.Errorf("P1103: %v; want single", err)
		}
		m.Times(m[:2])
		m.Apply(m[0][:2])
		m.Rows(0, 1, 3)
		m[:2].Inverse()
		unchanged("calls that are refused")
	}
	for what, w := range wrong() {
		m, unchanged := roomy(t, w)
		gf.Right(m)
		m.Times(single)
		single.Times(m)
		m.Apply([]byte{1, 2})
		m.Inverse()
		m.Rows(0)
		unchanged("calls of " + what)
	}
}

func TestP2WhatIsHandedInIsNotKept(t *testing.T) {
	for name, call := range calls() {
		m, o, n := handed()
		want, _ := call(handed())
		got, _ := call(m, o, n)
		spoilAll(m)
		spoilAll(o)
		clear(n)
		same(t, "P2: "+name+" and what was handed in is written over", got, api.OK, want)
	}
}

// TestP2RowsOfAnswersShareNothing writes over each row that is told, spare room too, and asks for all others.
func TestP2RowsOfAnswersShareNothing(t *testing.T) {
	for name, call := range calls() {
		got, _ := call(handed())
		for i := range got {
			was := slices.Clone(got)
			for k := range was {
				was[k] = bytes.Clone(got[k])
			}
			spoil(got[i])
			for k := range got {
				if k != i && !bytes.Equal(got[k], was[k]) {
					t.Errorf("P2: %s: row %d is written over, and row %d has changed", name, i, k)
				}
			}
		}
	}
}

// TestP3TheSameAgain makes each call again, behind others and with the first answer written over.
func TestP3TheSameAgain(t *testing.T) {
	first := map[string]string{}
	for range 3 {
		for name, call := range calls() {
			got, err := call(handed())
			is := fmt.Sprintf("%x %v", [][]byte(got), err)
			if was, seen := first[name]; seen && is != was {
				t.Errorf("P3: %s: %s; it was %s", name, is, was)
			}
			first[name] = is
			spoilAll(got)
		}
	}
}

// TestP2SharedRows: the rows of what is handed in may be one and the same memory.
func TestP2SharedRows(t *testing.T) {
	memory := []byte{1, 2, 3, 4}
	m := gf.Matrix{memory[:3], memory[1:], memory[:3]}
	got, err := m.Times(m)
	same(t, "P1103: Times", got, err, modelTimes(m, m))
	got, err = m.Rows(2, 0)
	same(t, "P1103: Rows", got, err, gf.Matrix{{1, 2, 3}, {1, 2, 3}})
	got, err = m.Inverse()
	refused(t, "P1103: Inverse", got, err, api.ErrSingle)
	got, err = gf.Matrix{memory[:2], memory[1:3]}.Inverse()
	want, _ := modelMatrixInverse(gf.Matrix{{1, 2}, {2, 3}})
	same(t, "P1103: Inverse", got, err, want)
	if string(memory) != "\x01\x02\x03\x04" {
		t.Errorf("P2: the memory is % x", memory)
	}
}
