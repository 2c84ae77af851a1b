package compact_test

import (
	"fmt"
	"math"
	"strconv"
	"strings"
	"testing"

	"glacier/api"
	"glacier/compact"
)

const (
	greatest    = math.MaxUint64
	greatestInt = math.MaxInt
)

// ten is a shape by which level 1 may have 10 bytes, and level 0 one table.
var ten = compact.Shape{Zero: 2, Base: 10, Table: 1}

func tab(file, level, size int, first, last string) api.Table {
	return api.Table{File: file, Level: level, First: first, Last: last, Size: size}
}

// tree tells the version whose tables a text names: of each its File, Level, First, Last, Size.
func tree(text string) api.Version {
	var v api.Version
	if text == "" {
		return v
	}
	for _, w := range strings.Split(text, ", ") {
		part := strings.Split(w, " ")
		v.Tables = append(v.Tables, tab(number(part[0]), number(part[1]), number(part[4]), part[2], part[3]))
	}
	return v
}

func number(word string) int {
	n, err := strconv.Atoi(word)
	if err != nil {
		panic("no number: " + word)
	}
	return n
}

// files tells the Files of tables.
func files(tables []api.Table) string {
	var words []string
	for _, t := range tables {
		words = append(words, strconv.Itoa(t.File))
	}
	return strings.Join(words, " ")
}

// task tells what Pick tells: the job's level, its inputs, and whether it is at the bottom.
func task(j compact.Job, is bool) string {
	var s string
	switch {
	case !is && j.Level == 0 && len(j.Inputs) == 0 && !j.Bottom:
		return "nothing"
	case !is:
		s = "nothing, but "
	}
	s += fmt.Sprint(j.Level, " of ", strings.Trim(fmt.Sprint(j.Inputs), "[]"))
	if j.Bottom {
		s += " bottom"
	}
	return s
}

// picks asks for what Pick tells of a version.
func picks(t *testing.T, v api.Version, s compact.Shape, want string) {
	t.Helper()
	if got := task(compact.Pick(v, s)); got != want {
		t.Errorf("P902: Pick(%v, %v) tells %q; want %q", v.Tables, s, got, want)
	}
}

// value tells a version that has a Value, gone one that is Gone.
func value(key string, seq uint64, text string) api.Entry {
	return api.Entry{Key: key, Seq: seq, Value: []byte(text)}
}

func gone(key string, seq uint64) api.Entry {
	return api.Entry{Key: key, Seq: seq, Gone: true}
}

// row tells the versions that a text names, as show tells them.
func row(text string) []api.Entry {
	var l []api.Entry
	if text == "" {
		return l
	}
	for _, w := range strings.Split(text, ", ") {
		part := strings.SplitN(w, " ", 3)
		seq := uint64(number(part[1]))
		if part[2] == "gone" {
			l = append(l, gone(part[0], seq))
		} else {
			l = append(l, value(part[0], seq, part[2]))
		}
	}
	return l
}

// show tells each version by its Key, its Seq, and its Value, if it is not Gone.
func show(l []api.Entry) string {
	var words []string
	for _, e := range l {
		w := e.Key + " " + strconv.FormatUint(e.Seq, 10) + " "
		if e.Gone {
			w += "gone"
		}
		words = append(words, w+string(e.Value))
	}
	return strings.Join(words, ", ")
}

// showAll tells lists, with bars between them.
func showAll(lists [][]api.Entry) string {
	var words []string
	for _, l := range lists {
		words = append(words, show(l))
	}
	return strings.Join(words, " | ")
}

// parted asks for the lists that Run tells.
func parted(t *testing.T, lists [][]api.Entry, err api.Errno, want string) {
	t.Helper()
	if s := showAll(lists); s != want || err != api.OK || want == "" && len(lists) != 0 {
		t.Errorf("P903: Run tells %d lists, %q, %v; want %q", len(lists), s, err, want)
	}
}
