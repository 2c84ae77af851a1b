package merge_test

import (
	"math/rand"
	"slices"
	"strconv"
	"strings"
	"testing"

	"glacier/api"
	"glacier/merge"
)

// The models go by the words of the chapter, without care for time, and hold the places of entries against one
// another byte by byte.

// stands tells whether a stands ahead of b.
func stands(a, b api.Entry) bool {
	for i := range min(len(a.Key), len(b.Key)) {
		if a.Key[i] != b.Key[i] {
			return a.Key[i] < b.Key[i]
		}
	}
	if len(a.Key) != len(b.Key) {
		return len(a.Key) < len(b.Key)
	}
	return a.Seq > b.Seq
}

func modelRight(l []api.Entry) bool {
	for i, e := range l {
		if e.Gone && string(e.Value) != "" || i > 0 && !stands(l[i-1], e) {
			return false
		}
	}
	return true
}

// modelMerge takes entries list by list, each that has a place of its own, and looks for its place from the end.
func modelMerge(lists [][]api.Entry) []api.Entry {
	var all []api.Entry
	for _, l := range lists {
		for _, e := range l {
			at := len(all)
			for at > 0 && stands(e, all[at-1]) {
				at--
			}
			if at == 0 || stands(all[at-1], e) {
				all = slices.Insert(all, at, e)
			}
		}
	}
	return all
}

// modelNewest tells the newest version of a key up to a number.
func modelNewest(l []api.Entry, key string, up uint64) (best api.Entry, has bool) {
	for _, e := range l {
		if e.Key == key && e.Seq <= up && (!has || e.Seq > best.Seq) {
			best, has = e, true
		}
	}
	return best, has
}

func modelSeen(l []api.Entry, up uint64) []api.Entry {
	var seen []api.Entry
	for _, e := range l {
		if best, has := modelNewest(l, e.Key, up); has && best.Seq == e.Seq && !e.Gone {
			seen = append(seen, e)
		}
	}
	return seen
}

func modelPrune(l []api.Entry, keep uint64, bottom bool) []api.Entry {
	var left []api.Entry
	for _, e := range l {
		best, has := modelNewest(l, e.Key, keep)
		if e.Seq > keep || has && best.Seq == e.Seq && !(bottom && e.Gone) {
			left = append(left, e)
		}
	}
	return left
}

// anyKey tells one of a few keys, those among them that are fronts of others.
func anyKey(draw *rand.Rand) string {
	return strings.Repeat("a", draw.Intn(3)) + []string{"", "b", "\x00", "\xFF", "ab"}[draw.Intn(5)]
}

func anySeq(draw *rand.Rand) uint64 {
	if draw.Intn(8) == 0 {
		return []uint64{greatest, greatest - 1, 1 << 63, 1<<63 - 1}[draw.Intn(4)]
	}
	return uint64(draw.Intn(6))
}

// anyEntry tells one; its Value is the text, unless it is gone.
func anyEntry(draw *rand.Rand, text string) api.Entry {
	if draw.Intn(3) == 0 {
		return gone(anyKey(draw), anySeq(draw))
	}
	return value(anyKey(draw), anySeq(draw), text)
}

// anyList tells a list that is right, of up to so many entries. The texts of its Values begin with that one.
func anyList(draw *rand.Rand, most int, text string) []api.Entry {
	var l [][]api.Entry
	for i := range draw.Intn(most + 1) {
		l = append(l, []api.Entry{anyEntry(draw, text+strconv.Itoa(i))})
	}
	return modelMerge(l)
}

func anyLists(draw *rand.Rand) [][]api.Entry {
	lists := make([][]api.Entry, draw.Intn(9))
	for i := range lists {
		if draw.Intn(5) > 0 {
			lists[i] = anyList(draw, 1+draw.Intn(20), strconv.Itoa(i)+".")
		}
	}
	return lists
}

// spoil makes something of a list wrong, now and then.
func spoil(draw *rand.Rand, l []api.Entry) {
	if len(l) == 0 || draw.Intn(2) == 0 {
		return
	}
	i, j := draw.Intn(len(l)), draw.Intn(len(l))
	switch draw.Intn(4) {
	case 0:
		l[i], l[j] = l[j], l[i]
	case 1:
		l[i] = l[j]
	case 2:
		l[i].Gone = true
	case 3:
		l[i] = anyEntry(draw, "spoilt")
	}
}

func TestP601ToP604OfAnyLists(t *testing.T) {
	for seed := range 3000 {
		draw := rand.New(rand.NewSource(int64(seed)))
		lists := anyLists(draw)
		want := modelMerge(lists)
		both(t, show(want), lists...)
		for _, n := range seqs(want) {
			seen, err := merge.Seen(want, n)
			is(t, "P603: Seen", seen, err, show(modelSeen(want, n)))
			for _, bottom := range []bool{false, true} {
				left, err := merge.Prune(want, n, bottom)
				is(t, "P604: Prune", left, err, show(modelPrune(want, n, bottom)))
			}
		}
		if t.Failed() {
			t.Fatalf("seed %d", seed)
		}
	}
}

func TestP601ToP604OfListsThatMayBeWrong(t *testing.T) {
	wrong := 0
	for seed := range 3000 {
		draw := rand.New(rand.NewSource(int64(seed)))
		lists := anyLists(draw)
		bad := false
		for _, l := range lists {
			spoil(draw, l)
			if merge.Right(l) != modelRight(l) {
				t.Errorf("P601: Right(%q) = %v; want %v", show(l), !modelRight(l), modelRight(l))
			}
			bad = bad || !modelRight(l)
		}
		for range merge.Cursor(sequences(lists)...) { // it need only come to an end (P8)
		}
		l, err := merge.Merge(lists...)
		if bad {
			wrong++
			refused(t, "P602: Merge", l, err)
		} else {
			is(t, "P602: Merge", l, err, show(modelMerge(lists)))
		}
		if t.Failed() {
			t.Fatalf("seed %d", seed)
		}
	}
	if wrong < 500 {
		t.Errorf("only %d lists were wrong", wrong)
	}
}

// parted lays the entries of a list, which is right, into some lists, each of which is.
func parted(draw *rand.Rand, l []api.Entry) [][]api.Entry {
	lists := make([][]api.Entry, 1+draw.Intn(12))
	for _, e := range l {
		i := draw.Intn(len(lists))
		lists[i] = append(lists[i], e)
	}
	return lists
}

func TestP605AnyParting(t *testing.T) {
	for seed := range 500 {
		draw := rand.New(rand.NewSource(int64(seed)))
		l := anyList(draw, 60, "")
		want := show(l)
		for range 5 {
			lists := parted(draw, l)
			both(t, want, lists...)
			// entries that several lists have alike stand for one another
			both(t, want, append(lists, parted(draw, l)...)...)
		}
		if t.Failed() {
			t.Fatalf("seed %d", seed)
		}
	}
}

// TestP605WithUnlikeValues parts what follows the first list: which entries follow it where is all the same, but for
// those whose place several have.
func TestP605WithUnlikeValues(t *testing.T) {
	for seed := range 500 {
		draw := rand.New(rand.NewSource(int64(seed)))
		first, other := anyList(draw, 30, "first"), anyList(draw, 30, "other")
		want := show(modelMerge([][]api.Entry{first, other}))
		lists := append([][]api.Entry{first}, parted(draw, other)...)
		both(t, want, lists...)
		both(t, want, append(parted(draw, first), lists[1:]...)...)
		both(t, want, append(append(parted(draw, first), lists...), first, other)...)
		if t.Failed() {
			t.Fatalf("seed %d", seed)
		}
	}
}

// TestP605SeenIsAMap writes the entries of all lists into a map, the eldest first.
func TestP605SeenIsAMap(t *testing.T) {
	for seed := range 1000 {
		draw := rand.New(rand.NewSource(int64(seed)))
		l := anyList(draw, 60, "")
		all, err := merge.Merge(parted(draw, l)...)
		if err != api.OK {
			t.Fatalf("P605: seed %d: Merge tells %v", seed, err)
		}
		slices.SortFunc(l, func(a, b api.Entry) int { // of one Seq a batch has each key once: their order is all the same
			if a.Seq < b.Seq {
				return -1
			}
			return 1
		})
		for _, up := range seqs(l) {
			values := map[string]string{}
			for _, e := range l {
				if e.Seq > up {
					break
				}
				delete(values, e.Key)
				if !e.Gone {
					values[e.Key] = string(e.Value)
				}
			}
			seen, err := merge.Seen(all, up)
			if err != api.OK || len(seen) != len(values) {
				t.Fatalf("P605: seed %d: up to %d seen is %q, %v; want %q", seed, up, show(seen), err, values)
			}
			for _, e := range seen {
				if v, has := values[e.Key]; !has || v != string(e.Value) || e.Gone {
					t.Errorf("P605: seed %d: up to %d %s is seen; want %q, %v", seed, up, word(e), v, has)
				}
			}
		}
	}
}

func TestP606SeenOfPrune(t *testing.T) {
	for seed := range 300 {
		draw := rand.New(rand.NewSource(int64(seed)))
		l := anyList(draw, 40, "")
		for _, keep := range seqs(l) {
			for _, bottom := range []bool{false, true} {
				left, err := merge.Prune(l, keep, bottom)
				if err != api.OK || !merge.Right(left) {
					t.Fatalf("P606: seed %d: Prune tells %q, %v", seed, show(left), err)
				}
				again, err := merge.Prune(left, keep, bottom)
				is(t, "P606: Prune of Prune", again, err, show(left))
				for _, up := range seqs(l) {
					if up < keep {
						continue
					}
					want, _ := merge.Seen(l, up)
					seen, err := merge.Seen(left, up)
					is(t, "P606: Seen of Prune", seen, err, show(want))
				}
			}
		}
		if t.Failed() {
			t.Fatalf("seed %d", seed)
		}
	}
}

func TestP3TheSameCallsAnswerTheSame(t *testing.T) {
	run := func() string {
		draw := rand.New(rand.NewSource(7))
		s := ""
		for range 100 {
			lists := anyLists(draw)
			all, _ := merge.Merge(lists...)
			seen, _ := merge.Seen(all, 3)
			left, _ := merge.Prune(all, 3, true)
			s += show(all) + show(seen) + show(left) + show(slices.Collect(merge.Cursor(sequences(lists)...)))
		}
		return s
	}
	if run() != run() {
		t.Error("P3: two runs of the same calls tell unlike things")
	}
}
