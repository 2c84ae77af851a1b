package lsm_test

import (
	"fmt"
	"maps"
	"math"
	"math/rand"
	"slices"
	"strings"
	"testing"

	"glacier/api"
	"glacier/compact"
	"glacier/disk"
	"glacier/lsm"
)

// state is what a tree is behind some batches: of each key that has a value its entry.
type state map[string]api.Entry

// model is a tree as a row of states, one for each number.
type model struct {
	states []state
	held   map[uint64]int
}

func newModel() *model { return &model{[]state{{}}, map[uint64]int{}} }

func (m *model) seq() uint64 { return uint64(len(m.states) - 1) }

func (m *model) apply(writes []api.Write) {
	next := state{}
	for key, e := range m.states[m.seq()] {
		next[key] = e
	}
	for _, w := range writes {
		delete(next, w.Key)
		if !w.Gone {
			next[w.Key] = api.Entry{Key: w.Key, Seq: m.seq() + 1, Value: w.Value}
		}
	}
	m.states = append(m.states, next)
}

func (m *model) keep() uint64 {
	keep := m.seq()
	for n := range m.held {
		keep = min(keep, n)
	}
	return keep
}

func (m *model) scan(prefix, after string, most int) []api.Entry {
	var l []api.Entry
	for key, e := range m.states[m.seq()] {
		if strings.HasPrefix(key, prefix) && key > after {
			l = append(l, e)
		}
	}
	slices.SortFunc(l, func(a, b api.Entry) int { return strings.Compare(a.Key, b.Key) })
	return l[:min(max(most, 0), len(l))]
}

// theKeys are those that batches write.
func theKeys() []string {
	l := []string{"", "\x00", "\xFF", "a", "a\x00", "aa", "ab", "aba", "b", "ba", "long" + strings.Repeat("k", 40)}
	for n := range 12 {
		l = append(l, fmt.Sprint("k", n))
	}
	return l
}

// run is a tree that is worked on, beside its model.
type run struct {
	t      *testing.T
	draw   *rand.Rand
	size   int
	d      *disk.Disk
	o      lsm.Options
	x      *lsm.DB
	m      *model
	levels map[int]bool
	log    []string
}

func newRun(t *testing.T, seed int64) *run {
	t.Helper()
	draw := rand.New(rand.NewSource(seed))
	size := []int{250, 600, 2000, 20000, 20000}[draw.Intn(5)]
	o := lsm.Options{
		Mem:   1 + draw.Intn([]int{1, 60, 300, 2000}[draw.Intn(4)]),
		Block: 1 + draw.Intn(200),
		Shape: compact.Shape{Zero: 1 + draw.Intn(4), Base: 1 + draw.Intn([]int{1, 20, 200}[draw.Intn(3)]), Table: 1 + draw.Intn(300)},
		Draws: []int{draw.Int(), 1, -draw.Intn(5), 0}[:draw.Intn(5)],
	}
	r := &run{t: t, draw: draw, size: size, d: made(t, size), o: o, m: newModel(), levels: map[int]bool{}}
	r.x = open(t, r.d, o)
	return r
}

func (r *run) fail(promise string, told ...any) {
	r.t.Helper()
	r.t.Fatalf("%s: %s; behind %q of %v", promise, fmt.Sprint(told...), r.log[max(len(r.log)-30, 0):], r.o)
}

func (r *run) batch() []api.Write {
	var l []api.Write
	keys := theKeys()
	for range 1 + r.draw.Intn(5)*r.draw.Intn(2) {
		w := api.Write{Key: keys[r.draw.Intn(len(keys))], Gone: r.draw.Intn(4) == 0}
		if !w.Gone {
			w.Value = []byte(strings.Repeat(fmt.Sprint(r.m.seq()), r.draw.Intn(12)))
		}
		l = append(l, w)
	}
	return l
}

func (r *run) apply() {
	r.t.Helper()
	l := r.batch()
	need := 10
	for _, w := range l {
		need += len(w.Key) + len(w.Value) + 4
	}
	free := room(r.d, r.size)
	seq, err := r.x.Apply(l...)
	switch {
	case err == api.OK && seq == r.m.seq()+1:
		r.m.apply(l)
	case err != api.ErrFull || seq != 0 || free >= need:
		r.fail("P1002", "Apply of ", l, " with room for ", free, " bytes: ", seq, " ", err)
	}
}

// quiet does what may be refused for want of room, and then must leave the disk as it is.
func (r *run) quiet(what string, do func() api.Errno) {
	r.t.Helper()
	was := show(r.t, r.d)
	if err := do(); err == api.ErrFull {
		if now := show(r.t, r.d); now != was {
			r.fail("P1005", what, " was refused, and the disk is ", now, "; it was ", was)
		}
	} else if err != api.OK {
		r.fail("P1005", what, ": ", err)
	}
}

func (r *run) compact() api.Errno {
	r.t.Helper()
	v := r.x.Version()
	j, is := compact.Pick(v, r.o.Shape)
	want := ""
	if is {
		want = fmt.Sprint(done(r.t, r.x, j, r.o.Shape, r.m.keep()))
	}
	did, err := r.x.Compact()
	if did != (is && err == api.OK) {
		r.fail("P1005", "Compact: ", did, " ", err, "; there is a job: ", is)
	}
	if did {
		if got := fmt.Sprint(done(r.t, r.x, compact.Job{Level: 9}, r.o.Shape, 0)); got != want {
			r.fail("P1005", "Compact leaves ", got, "; want ", want)
		}
	}
	return err
}

func (r *run) reopen() {
	r.t.Helper()
	was := show(r.t, r.d)
	r.x = open(r.t, r.d, r.o)
	r.m.held = map[uint64]int{}
	if now := show(r.t, r.d); now != was {
		r.fail("P1006", "Open again makes ", now, " of ", was)
	}
}

func (r *run) step() {
	r.t.Helper()
	r.log = append(r.log, "")
	word := &r.log[len(r.log)-1]
	switch k := r.draw.Intn(40); {
	case k < 18:
		*word = "apply"
		r.apply()
	case k < 22:
		*word = "hold"
		if n := r.x.Hold(); n != r.m.seq() {
			r.fail("P1004", "Hold: ", n)
		}
		r.m.held[r.m.seq()]++
	case k < 26:
		*word = "release"
		r.release(uint64(r.draw.Intn(len(r.m.states) + 2)))
	case k < 29:
		*word = "flush"
		r.quiet("Flush", r.x.Flush)
	case k < 35:
		*word = "compact"
		r.quiet("Compact", r.compact)
	case k < 36:
		*word = "sweep"
		r.sweep()
	case k < 37:
		*word = "apply nothing"
		if seq, err := r.x.Apply(); seq != r.m.seq() || err != api.OK {
			r.fail("P1002", "Apply of nothing: ", seq, " ", err)
		}
	case k < 38:
		*word = "open"
		r.reopen()
	default:
		*word = "crash"
		var picks []int
		for range r.draw.Intn(len(r.d.List()) + 3) {
			picks = append(picks, r.draw.Intn(99)-9)
		}
		r.d.Crash(picks...)
		r.reopen()
	}
}

func (r *run) release(n uint64) {
	r.t.Helper()
	for _, held := range slices.Sorted(maps.Keys(r.m.held)) {
		if r.draw.Intn(3) == 0 {
			n = held
		}
	}
	want := api.OK
	switch r.m.held[n] {
	case 0:
		want = api.ErrNone
	case 1:
		delete(r.m.held, n)
	default:
		r.m.held[n]--
	}
	if err := r.x.Release(n); err != want {
		r.fail("P1004", "Release(", n, "): ", err)
	}
}

func (r *run) sweep() {
	r.t.Helper()
	left := 0
	for n := range r.draw.Intn(3) {
		if r.d.Append(fmt.Sprintf("t-%06d", r.x.Version().Next+2*n), []byte("x")) == api.OK {
			left++
		}
	}
	r.quiet("Flush", r.x.Flush)
	if n := r.x.Sweep(); n != left {
		r.fail("P1005", "Sweep: ", n, "; ", left, " are left")
	}
}

// check holds all that the tree tells against the model.
func (r *run) check() {
	r.t.Helper()
	for _, p := range r.x.Version().Tables {
		r.levels[p.Level] = true
	}
	if r.x.Seq() != r.m.seq() {
		r.fail("P1003", "Seq ", r.x.Seq(), "; want ", r.m.seq())
	}
	for _, key := range append(theKeys(), "none", "k", "z") {
		b, is := r.x.Get(key)
		r.same("Get", key, r.m.seq(), b, is)
		b, is = r.x.At(key, r.m.seq())
		r.same("At", key, r.m.seq(), b, is)
		for n := range r.m.held {
			b, is = r.x.At(key, n)
			r.same("At", key, n, b, is)
		}
	}
	starts := []string{"", "a", "ab", "k", "k1", "b", "c", "\xFF", "\x00", "zz"}
	for range 4 {
		r.scan(starts[r.draw.Intn(len(starts))], append(theKeys(), starts...)[r.draw.Intn(20)], r.draw.Intn(9)-1)
	}
	r.scan("", "", math.MaxInt)
	whole(r.t, r.x)
}

func (r *run) same(what, key string, n uint64, b []byte, is bool) {
	r.t.Helper()
	e, want := r.m.states[n][key]
	if is != want || string(b) != string(e.Value) {
		r.fail("P1006", what, "(", key, ", ", n, "): ", string(b), " ", is, "; want ", string(e.Value), " ", want)
	}
}

func (r *run) scan(prefix, after string, most int) {
	r.t.Helper()
	if got, want := entries(r.x.Scan(prefix, after, most)), entries(r.m.scan(prefix, after, most)); got != want {
		r.fail("P1003", "Scan(", prefix, ", ", after, ", ", most, "): ", got, "; want ", want)
	}
}

func TestP1006OfAnyCalls(t *testing.T) {
	levels := map[int]int{}
	for seed := range 150 {
		r := newRun(t, int64(seed))
		for range 150 {
			r.step()
			r.check()
		}
		for level := range r.levels {
			levels[level]++
		}
	}
	for level := range 5 {
		if levels[level] < 5 {
			t.Errorf("P1006: only %d of the trees have tables of level %d", levels[level], level)
		}
	}
}

func TestP3TheSameCallsAnswerTheSame(t *testing.T) {
	told := func() []string {
		var l []string
		r := newRun(t, 5)
		for range 150 {
			r.step()
			l = append(l, entries(r.x.Scan("", "", 99)), fmt.Sprint(r.x.Seq(), r.x.Version()), show(t, r.d))
		}
		return l
	}
	if a, b := told(), told(); !slices.Equal(a, b) {
		t.Error("P3: two runs of the same calls tell and do other things")
	}
}
