package mem

import (
	"cmp"
	"math/rand"
	"testing"
)

type number int

func (n number) compare(x number) int { return cmp.Compare(n, x) }

// TestP501TowersLead asks that each level of a list leads, in order, to all nodes whose towers have it: what a
// table tells would be right without that, too, but slow.
func TestP501TowersLead(t *testing.T) {
	for seed := range 50 {
		draw := rand.New(rand.NewSource(int64(seed)))
		var l list[number]
		var towers [top + 1]int
		for range 200 {
			item, high := number(draw.Intn(100)), 1+draw.Intn(top)
			if _, was := l.put(item, high); !was {
				towers[high]++
			}
		}
		want := l.count
		for level := range l.height() {
			nodes := 0
			for n := l.head.next[level]; n != nil; n = n.next[level] {
				if m := n.next[level]; m != nil && m.item <= n.item {
					t.Errorf("P503: seed %d: on level %d %d stands ahead of %d", seed, level, n.item, m.item)
				}
				nodes++
			}
			if nodes != want {
				t.Errorf("P501: seed %d: level %d leads to %d nodes; want %d", seed, level, nodes, want)
			}
			want -= towers[level+1]
		}
		if want != 0 {
			t.Errorf("P503: seed %d: %d towers are higher than the list is said to be", seed, want)
		}
		if high := l.height(); towers[high] == 0 {
			t.Errorf("P503: seed %d: no tower is as high as the list is said to be, %d", seed, high)
		}
	}
}
