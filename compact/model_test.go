package compact_test

import (
	"math/big"
	"math/rand"
	"slices"
	"strings"
	"testing"

	"glacier/api"
	"glacier/compact"
	"glacier/manifest"
)

// The models go by the words of the chapter, without care for time.

func modelOver(v api.Version, level int, first, last string) []api.Table {
	var over []api.Table
	for _, t := range v.Tables {
		if t.Level == level && !(t.First > last) && !(first > t.Last) {
			over = append(over, t)
		}
	}
	return over
}

// levelOf tells all tables of a level.
func levelOf(v api.Version, level int) []api.Table {
	return slices.DeleteFunc(slices.Clone(v.Tables), func(t api.Table) bool { return t.Level != level })
}

// ends tells the least First and the greatest Last.
func ends(tables []api.Table) (string, string) {
	var firsts, lasts []string
	for _, t := range tables {
		firsts, lasts = append(firsts, t.First), append(lasts, t.Last)
	}
	return slices.Min(firsts), slices.Max(lasts)
}

// hasTooMuch tells whether the Sizes of tables together are above Base times 10 as often as a level says, less one.
func hasTooMuch(tables []api.Table, base, level int) bool {
	all, bound := new(big.Int), big.NewInt(int64(base))
	for _, t := range tables {
		all.Add(all, big.NewInt(int64(t.Size)))
	}
	for range level - 1 {
		bound.Mul(bound, big.NewInt(10))
	}
	return all.Cmp(bound) > 0
}

func modelPick(v api.Version, s compact.Shape) (compact.Job, bool) {
	if s.Zero < 1 || s.Zero > 100 || s.Base < 1 || s.Base > 1<<30 || s.Table < 1 || s.Table > 1<<26 {
		return compact.Job{}, false
	}
	if zero := levelOf(v, 0); len(zero) >= s.Zero {
		return modelJob(v, 0, zero), true
	}
	for level := 1; level <= 5; level++ {
		if tables := levelOf(v, level); hasTooMuch(tables, s.Base, level) {
			slices.SortStableFunc(tables, func(a, b api.Table) int {
				if a.Size > b.Size {
					return -1
				}
				if a.Size < b.Size {
					return 1
				}
				return 0
			})
			return modelJob(v, level, tables[:1]), true
		}
	}
	return compact.Job{}, false
}

func modelJob(v api.Version, level int, tables []api.Table) compact.Job {
	first, last := ends(tables)
	all := slices.Concat(tables, modelOver(v, level+1, first, last))
	j := compact.Job{Level: level, Bottom: true}
	for _, t := range all {
		j.Inputs = append(j.Inputs, t.File)
	}
	first, last = ends(all)
	for deeper := level + 2; deeper <= 6; deeper++ {
		if len(modelOver(v, deeper, first, last)) > 0 {
			j.Bottom = false
		}
	}
	return j
}

// anyKey tells one of a few keys, those among them that are fronts of others.
func anyKey(draw *rand.Rand) string {
	return strings.Repeat("a", draw.Intn(3)) + []string{"", "b", "\x00", "\xFF", "ab", "c", "d"}[draw.Intn(7)]
}

// anyTables tells tables in order, also such as may not lie beside one another, or may not be at all.
func anyTables(draw *rand.Rand, most int) []api.Table {
	var l []api.Table
	for i := range draw.Intn(most + 1) {
		first, last := anyKey(draw), anyKey(draw)
		if first > last && draw.Intn(8) > 0 {
			first, last = last, first
		}
		if draw.Intn(3) == 0 {
			last = first
		}
		size := draw.Intn(12)
		switch draw.Intn(30) {
		case 0:
			size = greatestInt - draw.Intn(3)
		case 1:
			size = 10000 * draw.Intn(20)
		}
		l = append(l, tab(i, draw.Intn(7), size, first, last))
	}
	slices.SortFunc(l, manifest.Compare)
	return l
}

func anyShape(draw *rand.Rand) compact.Shape {
	s := compact.Shape{Zero: 1 + draw.Intn(5), Base: 1 + draw.Intn(30), Table: 1 + draw.Intn(100)}
	switch draw.Intn(25) {
	case 0:
		s.Zero = 101 * draw.Intn(2)
	case 1:
		s.Base = -draw.Intn(2)
	case 2:
		s.Table = draw.Intn(2) * (1<<26 + 1)
	}
	return s
}

func TestP902PickOfAnyVersions(t *testing.T) {
	draw := rand.New(rand.NewSource(902))
	told := map[string]int{}
	for range 60000 {
		v := api.Version{Tables: anyTables(draw, 1+draw.Intn(16))}
		s := anyShape(draw)
		j, is := modelPick(v, s)
		picks(t, v, s, task(j, is))
		if is {
			told["jobs"]++
			told["jobs of level "+string(rune('0'+j.Level))]++
		}
		if j.Bottom {
			told["jobs at the bottom"]++
		}
		if t.Failed() {
			return
		}
	}
	for level := range 6 {
		if n := told["jobs of level "+string(rune('0'+level))]; n < 100 {
			t.Errorf("only %d jobs of level %d were tried", n, level)
		}
	}
	if n, all := told["jobs at the bottom"], told["jobs"]; n < all/10 || n > all*9/10 {
		t.Errorf("of %d jobs %d are at the bottom", all, n)
	}
}

func TestP901OverOfAnyVersions(t *testing.T) {
	draw := rand.New(rand.NewSource(901))
	for range 30000 {
		v := api.Version{Tables: anyTables(draw, 12)}
		level, first, last := draw.Intn(8)-1, anyKey(draw), anyKey(draw)
		if got, want := compact.Over(v, level, first, last), modelOver(v, level, first, last); !slices.Equal(got, want) {
			t.Fatalf("P901: Over(%v, %d, %q, %q) tells %v; want %v", v.Tables, level, first, last, got, want)
		}
	}
}

// place is where a version of a key stands among all.
type place struct {
	key string
	seq uint64
}

// modelAll tells what lists have together, of each place what the first list has, in order.
func modelAll(lists [][]api.Entry) []api.Entry {
	first := map[place]int{}
	var all []api.Entry
	for _, l := range lists {
		for _, e := range l {
			if _, is := first[place{e.Key, e.Seq}]; !is {
				first[place{e.Key, e.Seq}] = 1
				all = append(all, e)
			}
		}
	}
	slices.SortFunc(all, func(a, b api.Entry) int {
		if a.Key < b.Key || a.Key == b.Key && a.Seq > b.Seq {
			return -1
		}
		return 1
	})
	return all
}

// newestOf tells the newest version of each key up to a number.
func newestOf(l []api.Entry, up uint64) map[string]api.Entry {
	newest := map[string]api.Entry{}
	for _, e := range l {
		if was, is := newest[e.Key]; e.Seq <= up && (!is || e.Seq > was.Seq) {
			newest[e.Key] = e
		}
	}
	return newest
}

// modelSeen tells what is seen of versions up to a number.
func modelSeen(l []api.Entry, up uint64) string {
	var seen []api.Entry
	for _, e := range newestOf(l, up) {
		if !e.Gone {
			seen = append(seen, e)
		}
	}
	return show(modelAll([][]api.Entry{seen}))
}

func modelPrune(l []api.Entry, keep uint64, bottom bool) []api.Entry {
	newest := newestOf(l, keep)
	var left []api.Entry
	for _, e := range l {
		if n, is := newest[e.Key]; e.Seq > keep || is && n.Seq == e.Seq && !(e.Gone && bottom) {
			left = append(left, e)
		}
	}
	return left
}

// modelParts goes from entry to entry, and looks at the list that it has and at what follows.
func modelParts(l []api.Entry, size int) [][]api.Entry {
	var lists [][]api.Entry
	var now []api.Entry
	for _, next := range l {
		has := 0
		for _, e := range now {
			has += len(e.Key) + len(e.Value) + 16
		}
		if has >= size && now[len(now)-1].Key != next.Key {
			lists, now = append(lists, now), nil
		}
		now = append(now, next)
	}
	if len(now) > 0 {
		lists = append(lists, now)
	}
	return lists
}

// anyList tells a list that is right, of up to so many versions; the texts of its Values begin with that one.
func anyList(draw *rand.Rand, most int, text string) []api.Entry {
	var l []api.Entry
	for range draw.Intn(most + 1) {
		e := value(anyKey(draw), uint64(draw.Intn(6)), text+strings.Repeat("v", draw.Intn(20)))
		if draw.Intn(40) == 0 {
			e.Seq += greatest - 5
		}
		if draw.Intn(3) == 0 {
			e = gone(e.Key, e.Seq)
		}
		l = append(l, e)
	}
	return modelAll([][]api.Entry{l})
}

func anyLists(draw *rand.Rand) [][]api.Entry {
	lists := make([][]api.Entry, draw.Intn(6))
	for i := range lists {
		lists[i] = anyList(draw, 1+draw.Intn(15), string(rune('0'+i)))
	}
	return lists
}

func anyKeep(draw *rand.Rand) uint64 {
	if draw.Intn(8) == 0 {
		return greatest - uint64(draw.Intn(4))
	}
	return uint64(draw.Intn(8))
}

func TestP903RunOfAnyLists(t *testing.T) {
	draw := rand.New(rand.NewSource(903))
	for range 20000 {
		lists, keep, bottom, size := anyLists(draw), anyKeep(draw), draw.Intn(2) == 0, 1+draw.Intn(120)
		left := modelPrune(modelAll(lists), keep, bottom)
		got, err := compact.Run(keep, bottom, size, lists...)
		parted(t, got, err, showAll(modelParts(left, size)))
		if t.Failed() {
			t.Fatalf("P903: Run(%d, %v, %d, %q)", keep, bottom, size, showAll(lists))
		}
	}
}

func TestP903RunOfListsSomeOfWhichAreNotRight(t *testing.T) {
	draw := rand.New(rand.NewSource(9030))
	for range 2000 {
		lists := append(anyLists(draw), row("a 1 x, b 1 x"))
		at := draw.Intn(len(lists))
		l := append(lists[at], value("\xFF\xFF", 1, ""), value("\xFF\xFE", 1, ""))
		lists[at] = l
		refused(t, api.ErrOrder, 1+draw.Intn(200), lists...)
		refused(t, api.ErrArg, -draw.Intn(200), lists...)
	}
}
