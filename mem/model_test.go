package mem_test

import (
	"cmp"
	"iter"
	"math/rand"
	"slices"
	"strconv"
	"strings"
	"testing"

	"glacier/api"
	"glacier/mem"
)

// model goes by the words of the chapter, without care for time: all versions lie in one list, in no order.
type model struct {
	draws    []int
	versions []api.Entry
}

func (m *model) put(e api.Entry) {
	if e.Gone {
		e.Value = nil
	}
	for i, x := range m.versions {
		if x.Key == e.Key && x.Seq == e.Seq {
			m.versions[i] = e
			return
		}
	}
	m.versions = append(m.versions, e)
}

// height goes through the list, for it is in the order in which versions came.
func (m *model) height() int {
	high := 0
	for n := range m.versions {
		tower := 1
		if len(m.draws) > 0 && m.draws[n%len(m.draws)] > 0 {
			tower += m.draws[n%len(m.draws)] % 12
		}
		high = max(high, tower)
	}
	return high
}

func (m *model) get(key string, up uint64) string {
	best, has := api.Entry{}, false
	for _, e := range m.versions {
		if e.Key == key && e.Seq <= up && (!has || e.Seq > best.Seq) {
			best, has = e, true
		}
	}
	if !has {
		return ""
	}
	return word(best)
}

func (m *model) from(key string) string {
	var l []api.Entry
	for _, e := range m.versions {
		if e.Key >= key {
			l = append(l, e)
		}
	}
	slices.SortFunc(l, func(a, b api.Entry) int {
		return cmp.Or(strings.Compare(a.Key, b.Key), cmp.Compare(b.Seq, a.Seq))
	})
	return tell(slices.Values(l))
}

// show tells what show of the table must tell.
func (m *model) show() string {
	size := 0
	for _, e := range m.versions {
		size += len(e.Key) + len(e.Value) + 16
	}
	return strconv.Itoa(len(m.versions)) + ", " + strconv.Itoa(size) + ": " + m.from("")
}

// anyKey tells one of a few keys, those among them that are fronts of others.
func anyKey(draw *rand.Rand) string {
	return strings.Repeat("a", draw.Intn(3)) + []string{"", "b", "\x00", "\xFF", "ab"}[draw.Intn(5)]
}

func anySeq(draw *rand.Rand) uint64 {
	if draw.Intn(8) == 0 {
		return []uint64{greatest, greatest - 1, 1 << 63, 1<<63 - 1}[draw.Intn(4)]
	}
	return uint64(draw.Intn(5))
}

// anyVersion tells one; now and then one that is Gone and has a Value.
func anyVersion(draw *rand.Rand, text string) api.Entry {
	e := api.Entry{Key: anyKey(draw), Seq: anySeq(draw), Gone: draw.Intn(4) == 0}
	if draw.Intn(4) > 0 {
		e.Value = []byte(text)
	}
	return e
}

func anyDraws(draw *rand.Rand) []int {
	draws := make([]int, draw.Intn(40))
	for i := range draws {
		draws[i] = draw.Intn(60) - 20
	}
	return draws
}

// made is a sequence, and what it must tell for ever.
type made struct {
	seq  iter.Seq[api.Entry]
	want string
}

// begins goes over the first versions that a sequence tells; none, if most is below 1.
func begins(seq iter.Seq[api.Entry], most int) string {
	var l []string
	for e := range seq {
		if len(l) >= most {
			break
		}
		l = append(l, word(e))
	}
	return strings.Join(l, ", ")
}

func TestP501ToP503OfAnyCalls(t *testing.T) {
	for seed := range 60 {
		draw := rand.New(rand.NewSource(int64(seed)))
		draws := anyDraws(draw)
		x, m := mem.New(draws...), model{draws: draws}
		var seqs []made
		for i := range 150 {
			e := anyVersion(draw, strconv.Itoa(i))
			was := m.show()
			x.Put(e)
			m.put(e)
			if s := show(x); s != m.show() || x.Height() != m.height() {
				t.Fatalf("P501 to P503: seed %d: behind Put of %s, %q is %q, %d high; want %q, %d", seed, word(e), was, s, x.Height(), m.show(), m.height())
			}
			key, up := anyKey(draw), anySeq(draw)
			got(t, x, key, up, m.get(key, up))
			seqs = append(seqs, made{x.From(key), m.from(key)})
			old := seqs[draw.Intn(len(seqs))]
			over(t, "P503, P7", old.seq, old.want)
			if s := begins(old.seq, draw.Intn(9)); !strings.HasPrefix(old.want, s) {
				t.Errorf("P7: a sequence that is left early tells %q; want a front of %q", s, old.want)
			}
		}
		for _, old := range seqs {
			over(t, "P503, P7", old.seq, old.want)
		}
		if t.Failed() {
			t.Fatalf("seed %d", seed)
		}
	}
}

// all tells all that a table tells but for Height: show, and what Get and From tell of some keys and Seqs.
func all(x *mem.Table) string {
	l := []string{show(x)}
	for _, key := range []string{"", "\x00", "a", "ab", "aa", "aaa", "b", "\xFF", "\xFF\xFF"} {
		l = append(l, tell(x.From(key)))
		for _, up := range []uint64{0, 1, 2, 3, 4, 9, 1<<63 - 1, 1 << 63, greatest - 1, greatest} {
			e, is := x.Get(key, up)
			l = append(l, word(e)+" "+strconv.FormatBool(is))
		}
	}
	return strings.Join(l, "; ")
}

// TestP504OtherOrdersAndDraws puts the same versions in each order of them, none of which stands for another.
func TestP504OtherOrdersAndDraws(t *testing.T) {
	versions := []api.Entry{value("a", 1, "x"), gone("a", 3), value("aa", 1, ""), value("", 2, "y"), value("a", greatest, "z")}
	want := all(table(nil, versions...))
	orders := 0
	each(versions, 0, func(l []api.Entry) {
		for _, draws := range someDraws() {
			if s := all(table(draws, l...)); s != want {
				t.Errorf("P504: in another order, with the draws %v, the table tells %q; want %q", draws, s, want)
			}
		}
		orders++
	})
	if orders != 120 {
		t.Errorf("5 versions have %d orders", orders)
	}
}

// each calls f with each order of l, in which those ahead of from stay where they are.
func each(l []api.Entry, from int, f func([]api.Entry)) {
	if from == len(l) {
		f(l)
		return
	}
	for i := from; i < len(l); i++ {
		l[from], l[i] = l[i], l[from]
		each(l, from+1, f)
		l[from], l[i] = l[i], l[from]
	}
}

// TestP504TheLastOfEachPlaceCounts puts many versions, and then in other orders only the last one of each place.
func TestP504TheLastOfEachPlaceCounts(t *testing.T) {
	for seed := range 100 {
		draw := rand.New(rand.NewSource(int64(seed)))
		x, m := mem.New(anyDraws(draw)...), model{}
		for i := range draw.Intn(200) {
			e := anyVersion(draw, strconv.Itoa(i))
			x.Put(e)
			m.put(e)
		}
		want := all(x)
		for range 3 {
			draw.Shuffle(len(m.versions), func(i, j int) { m.versions[i], m.versions[j] = m.versions[j], m.versions[i] })
			if s := all(table(anyDraws(draw), m.versions...)); s != want {
				t.Fatalf("P504: seed %d: the last ones of each place tell %q; want %q", seed, s, want)
			}
		}
	}
}

func TestP3TheSameCallsAnswerTheSame(t *testing.T) {
	run := func() string {
		draw := rand.New(rand.NewSource(5))
		x := mem.New(anyDraws(draw)...)
		s := ""
		for i := range 100 {
			x.Put(anyVersion(draw, strconv.Itoa(i)))
			s += all(x) + strconv.Itoa(x.Height())
		}
		return s
	}
	if run() != run() {
		t.Error("P3: two runs of the same calls tell unlike things")
	}
}

func TestP502OfManyVersions(t *testing.T) {
	draw := rand.New(rand.NewSource(1))
	draws := make([]int, 1000)
	for i := range draws {
		for draws[i] < 11 && draw.Intn(3) == 0 {
			draws[i]++ // most towers low, few high
		}
	}
	const many = 20000
	x := mem.New(draws...)
	for _, i := range draw.Perm(many) {
		x.Put(value(strconv.Itoa(many+i/4), uint64(i%4), strconv.Itoa(i)))
	}
	for i := range many {
		e, is := x.Get(strconv.Itoa(many+i/4), uint64(i%4))
		if !is || string(e.Value) != strconv.Itoa(i) {
			t.Fatalf("P502: version %d is %s, %v", i, word(e), is)
		}
		for e = range x.From(e.Key) {
			break
		}
		if string(e.Value) != strconv.Itoa(i|3) {
			t.Fatalf("P503: the first version from %s on is %s", e.Key, word(e))
		}
	}
	if x.Len() != many || x.Height() != slices.Max(draws)+1 {
		t.Errorf("P503: %d versions, %d high; want %d, %d", x.Len(), x.Height(), many, slices.Max(draws)+1)
	}
}
