package net_test

import (
	"math"
	"slices"
	"testing"

	"glacier/api"
	"glacier/net"
)

func TestP301TheExample(t *testing.T) {
	n := made(t, 3, 2)
	if k := n.Send(0, []byte("x"), 1, 2, 1, 1); k != 3 {
		t.Errorf("P301: Send: %d; want 3", k)
	}
	is(t, "P301", n, "0, 3; 0>1 x x; 0>2 x")
	if m, ok := n.Deliver(0, 1, 5); !ok || m.From != 0 || m.To != 1 || string(m.Bytes) != "x" {
		t.Errorf("P302: Deliver: %v, %v; want x", m, ok)
	}
	if !n.Double(0, 1, 0) {
		t.Error("P302: Double of a bag with room: false")
	}
	if n.Double(0, 1, 0) {
		t.Error("P302: Double of a full bag: true")
	}
	is(t, "P302", n, "0, 3; 0>1 x x; 0>2 x")
}

func TestP301New(t *testing.T) {
	right := func(x, most int) bool { return 1 <= x && x <= most }
	nodes := append(far(), -16, -1, 0, 1, 2, 15, 16, 17, 18, 32, 1<<32+1)
	bounds := append(far(), -1<<16, -1, 0, 1, 2, 1<<16-1, 1<<16, 1<<16+1, 1<<17, 1<<32+1)
	for _, k := range nodes {
		for _, b := range bounds {
			n, err := net.New(k, b)
			switch {
			case !right(k, 16) || !right(b, 1<<16):
				if n != nil || err != api.ErrArg {
					t.Errorf("P301: New(%d, %d) = %v, %v; want none and arg", k, b, n, err)
				}
			case n == nil || err != api.OK:
				t.Errorf("P301: New(%d, %d) = %v, %v; want a net", k, b, n, err)
			case n.All() != 0 || len(n.Links()) != 0 || n.Now() != 0:
				t.Errorf("P301: New(%d, %d) has %v, at %d", k, b, n.Links(), n.Now())
			}
		}
	}
}

func TestP301NodesOfANet(t *testing.T) {
	for nodes := 1; nodes <= 16; nodes++ {
		n := made(t, nodes, 1)
		for from := -1; from <= nodes; from++ {
			for to := -1; to <= nodes; to++ {
				want := 0
				if 0 <= from && from < nodes && 0 <= to && to < nodes {
					want = 1
				}
				if k := n.Send(from, []byte{byte(from), byte(to)}, to); k != want {
					t.Errorf("P301: of %d nodes, Send(%d, .., %d): %d; want %d", nodes, from, to, k, want)
				}
			}
		}
		for from := range nodes {
			for to := range nodes {
				if m, ok := n.Deliver(from, to, 0); !ok || m.From != from || m.To != to || string(m.Bytes) != string([]byte{byte(from), byte(to)}) {
					t.Errorf("P302: of %d nodes, Deliver(%d, %d): %v, %v", nodes, from, to, m, ok)
				}
			}
		}
		is(t, "P302", n, "0, 0")
	}
}

func TestP301Send(t *testing.T) {
	for _, c := range []struct {
		from int
		b    string
		to   []int
		laid int
		want string
	}{
		{0, "x", nil, 0, "0, 2; 0>0 b; 0>1 a"},
		{0, "x", []int{}, 0, "0, 2; 0>0 b; 0>1 a"},
		{0, "x", []int{1}, 1, "0, 3; 0>0 b; 0>1 a x"},
		{0, "x", []int{0}, 1, "0, 3; 0>0 b x; 0>1 a"},
		{0, "x", []int{2, 1, 0}, 3, "0, 5; 0>0 b x; 0>1 a x; 0>2 x"},
		{0, "x", []int{1, 1}, 2, "0, 4; 0>0 b; 0>1 a x x"},
		{0, "x", []int{1, 1, 1}, 2, "0, 4; 0>0 b; 0>1 a x x"},
		{0, "x", []int{1, 1, 1, 2, 1, 0}, 4, "0, 6; 0>0 b x; 0>1 a x x; 0>2 x"},
		{0, "x", []int{0, 0, 0, 0, 0, 2, 2, 2, 2}, 5, "0, 7; 0>0 b x x; 0>1 a; 0>2 x x x"},
		{1, "x", []int{0}, 1, "0, 3; 0>0 b; 0>1 a; 1>0 x"},
		{2, "x", []int{2, 2, 2, 2}, 3, "0, 5; 0>0 b; 0>1 a; 2>2 x x x"},
		{0, "x", []int{-1, 1, 3, 2, 17}, 2, "0, 4; 0>0 b; 0>1 a x; 0>2 x"},
		{0, "x", []int{-1, 3}, 0, "0, 2; 0>0 b; 0>1 a"},
		{-1, "x", []int{0, 1, 2}, 0, "0, 2; 0>0 b; 0>1 a"},
		{3, "x", []int{0, 1, 2}, 0, "0, 2; 0>0 b; 0>1 a"},
		{3, "x", []int{3, -1}, 0, "0, 2; 0>0 b; 0>1 a"},
		{1, "", []int{1, 2}, 2, "0, 4; 0>0 b; 0>1 a; 1>1 ; 1>2 "},
		{1, "\x00\xFFä", []int{2}, 1, "0, 3; 0>0 b; 0>1 a; 1>2 \x00\xFFä"},
	} {
		n := made(t, 3, 3)
		lay(t, n, 0, 1, "a")
		lay(t, n, 0, 0, "b")
		if k := n.Send(c.from, []byte(c.b), c.to...); k != c.laid {
			t.Errorf("P301: Send(%d, %q, %v): %d; want %d", c.from, c.b, c.to, k, c.laid)
		}
		is(t, "P301", n, c.want)
	}
}

func TestP301SendOfNoBytes(t *testing.T) {
	n := made(t, 2, 9)
	if k := n.Send(1, nil, 0, 1); k != 2 {
		t.Errorf("P301: Send of nil: %d; want 2", k)
	}
	for _, to := range []int{0, 1} {
		if m, ok := n.Deliver(1, to, 0); !ok || m.From != 1 || m.To != to || len(m.Bytes) != 0 {
			t.Errorf("P302: Deliver of no bytes: %v, %v", m, ok)
		}
	}
}

func TestP301ABagHoldsItsBound(t *testing.T) {
	for _, bound := range []int{1, 2, 3, 64, 1<<16 - 1, 1 << 16} {
		n := made(t, 2, bound)
		if k := n.Send(0, []byte("x"), slices.Repeat([]int{1}, bound-1)...); k != bound-1 || n.All() != bound-1 {
			t.Errorf("P301: of %d, %d are laid; All is %d", bound-1, k, n.All())
		}
		for i, want := range []int{1, 0, 0} {
			if k := n.Send(0, []byte("y"), 1); k != want || n.All() != bound {
				t.Errorf("P301: bound %d: Send %d: %d; want %d; All is %d", bound, i, k, want, n.All())
			}
		}
		if k := n.Send(0, []byte("z"), 1, 0, 1); k != 1 {
			t.Errorf("P304: bound %d: beside a full link %d are laid; want 1", bound, k)
		}
		if n.Double(0, 1, 0) || n.All() != bound+1 {
			t.Errorf("P302: bound %d: a full bag is doubled", bound)
		}
		if !n.Drop(0, 1, 0) || n.Send(0, []byte("w"), 1, 1) != 1 {
			t.Errorf("P301: bound %d: a bag that was full takes not just one", bound)
		}
		if m, ok := n.Deliver(0, 1, bound-1); !ok || string(m.Bytes) != "w" {
			t.Errorf("P302: bound %d: the last one is %v, %v", bound, m, ok)
		}
		if k := n.Send(0, []byte("x"), slices.Repeat([]int{1, 0}, bound+1)...); k != bound {
			t.Errorf("P301: bound %d: %d are laid; want %d", bound, k, bound)
		}
	}
}

// TestP302TheGreatestBag takes 1 << 16 messages by picks of all kinds, against a list of them.
func TestP302TheGreatestBag(t *testing.T) {
	const bound = 1 << 16
	name := func(i int) string { return string([]byte{byte(i), byte(i >> 8), byte(i >> 16)}) }
	n := made(t, 1, bound)
	var want []string
	for i := range bound + 5 {
		if k := n.Send(0, []byte(name(i)), 0); k == 1 {
			want = append(want, name(i))
		}
	}
	if len(want) != bound || n.All() != bound {
		t.Fatalf("P301: %d are laid; All is %d; want %d", len(want), n.All(), bound)
	}
	for i := 0; len(want) > 0; i++ {
		pick := []int{0, -i, bound - 1, i, 7 * i, len(want) / 2}[i%6]
		at := max(pick, 0) % len(want)
		if m, ok := n.Deliver(0, 0, pick); !ok || string(m.Bytes) != want[at] {
			t.Fatalf("P302: pick %d of %d: % x, %v; want % x", pick, len(want), m.Bytes, ok, want[at])
		}
		want = slices.Delete(want, at, at+1)
	}
	is(t, "P302", n, "0, 0")
}

func TestP303Links(t *testing.T) {
	n := made(t, 16, 9)
	var want []net.Link
	all := 0
	for from := 15; from >= 0; from-- {
		for to := 15; to >= 0; to-- {
			k := (5*from + 3*to) % 4
			n.Send(from, []byte("x"), slices.Repeat([]int{to}, k)...)
			if k > 0 {
				want = append(want, net.Link{From: from, To: to, Count: k})
			}
			all += k
		}
	}
	slices.Reverse(want)
	if l := n.Links(); !slices.Equal(l, want) {
		t.Errorf("P303: Links: %v; want %v", l, want)
	}
	if n.All() != all {
		t.Errorf("P303: All: %d; want %d", n.All(), all)
	}
}

func TestP303LinksAndAllStepByStep(t *testing.T) {
	n := made(t, 3, 3)
	for i, c := range []struct {
		do   func()
		want []net.Link
	}{
		{func() {}, nil},
		{func() { n.Send(2, nil, 1, 1, 0) }, []net.Link{{From: 2, To: 0, Count: 1}, {From: 2, To: 1, Count: 2}}},
		{func() { n.Double(2, 0, 0) }, []net.Link{{From: 2, To: 0, Count: 2}, {From: 2, To: 1, Count: 2}}},
		{func() { n.Send(0, nil, 2) }, []net.Link{{From: 0, To: 2, Count: 1}, {From: 2, To: 0, Count: 2}, {From: 2, To: 1, Count: 2}}},
		{func() { n.Deliver(2, 1, 1) }, []net.Link{{From: 0, To: 2, Count: 1}, {From: 2, To: 0, Count: 2}, {From: 2, To: 1, Count: 1}}},
		{func() { n.Drop(2, 1, 1) }, []net.Link{{From: 0, To: 2, Count: 1}, {From: 2, To: 0, Count: 2}}},
		{func() { n.Tick() }, []net.Link{{From: 0, To: 2, Count: 1}, {From: 2, To: 0, Count: 2}}},
		{func() { n.Clear(1) }, []net.Link{{From: 0, To: 2, Count: 1}, {From: 2, To: 0, Count: 2}}},
		{func() { n.Send(0, nil, 1, 2, 2, 2) }, []net.Link{{From: 0, To: 1, Count: 1}, {From: 0, To: 2, Count: 3}, {From: 2, To: 0, Count: 2}}},
		{func() { n.Clear(2) }, []net.Link{{From: 0, To: 1, Count: 1}}},
		{func() { n.Deliver(0, 1, 0) }, nil},
	} {
		c.do()
		all := 0
		for _, l := range c.want {
			all += l.Count
		}
		if l := n.Links(); !slices.Equal(l, c.want) || n.All() != all {
			t.Errorf("P303: behind step %d: %v, %d in all; want %v, %d", i, l, n.All(), c.want, all)
		}
	}
}

func TestP303Clear(t *testing.T) {
	for _, c := range []struct {
		node int
		want string
	}{
		{0, "1, 5; 1>1 11 !; 1>2 12; 2>1 21; 2>2 22"},
		{1, "1, 4; 0>0 00; 0>2 02; 2>0 20; 2>2 22"},
		{2, "1, 5; 0>0 00; 0>1 01; 1>0 10; 1>1 11 !"},
	} {
		n := full(t)
		n.Clear(c.node)
		is(t, "P303", n, c.want)
		n.Clear(c.node)
		is(t, "P303: once more", n, c.want)
		for other := range 3 {
			if m, ok := n.Deliver(c.node, other, 0); ok || len(m.Bytes) != 0 {
				t.Errorf("P303: from %d, which was cleared: %v", c.node, m)
			}
			if m, ok := n.Deliver(other, c.node, 0); ok || len(m.Bytes) != 0 {
				t.Errorf("P303: to %d, which was cleared: %v", c.node, m)
			}
		}
	}
}

// full tells a net of three nodes with a message on each link, two on that of 1 with itself, at time 1.
func full(t *testing.T) *net.Net {
	t.Helper()
	n := made(t, 3, 2)
	for _, from := range []string{"0", "1", "2"} {
		for _, to := range []string{"0", "1", "2"} {
			lay(t, n, int(from[0]-'0'), int(to[0]-'0'), from+to)
		}
	}
	lay(t, n, 1, 1, "!")
	n.Tick()
	is(t, "P301", n, "1, 10; 0>0 00; 0>1 01; 0>2 02; 1>0 10; 1>1 11 !; 1>2 12; 2>0 20; 2>1 21; 2>2 22")
	return n
}

func TestP303AfterAClearLinksGoOn(t *testing.T) {
	n := full(t)
	n.Clear(1)
	lay(t, n, 1, 1, "a", "b")
	lay(t, n, 0, 1, "c", "d")
	if k := n.Send(1, []byte("e"), 0, 1, 2); k != 2 {
		t.Errorf("P301: behind a Clear %d are laid; want 2", k)
	}
	is(t, "P303", n, "1, 10; 0>0 00; 0>1 c d; 0>2 02; 1>0 e; 1>1 a b; 1>2 e; 2>0 20; 2>2 22")
}

func TestP303TheClock(t *testing.T) {
	n := made(t, 1, 1)
	for i := range 1000 {
		if n.Now() != i || n.Now() != i {
			t.Fatalf("P303: behind %d ticks it is %d", i, n.Now())
		}
		if k := n.Tick(); k != i+1 {
			t.Fatalf("P303: tick %d tells %d", i+1, k)
		}
		switch i % 5 {
		case 0:
			n.Send(0, nil, 0, 0)
		case 1:
			n.Double(0, 0, 0)
		case 2:
			n.Deliver(0, 0, 0)
		case 3:
			n.Drop(0, 0, 0)
		case 4:
			n.Clear(0)
		}
	}
}

func TestP301ToP303NumbersThatAreNoNode(t *testing.T) {
	n := full(t)
	was := show(t, n)
	for _, x := range append(noNodes(3), math.MaxInt/3) {
		for _, y := range []int{0, 1, 2, x, -1, 3} {
			for _, c := range [][2]int{{x, y}, {y, x}} {
				if k := n.Send(c[0], []byte("no"), c[1], c[1]); k != 0 {
					t.Errorf("P301: Send(%d, .., %d) lays %d", c[0], c[1], k)
				}
				for _, pick := range []int{0, 1, -1} {
					if m, ok := n.Deliver(c[0], c[1], pick); ok || m.From != 0 || m.To != 0 || len(m.Bytes) != 0 {
						t.Errorf("P302: Deliver(%d, %d): %v, %v", c[0], c[1], m, ok)
					}
					if n.Drop(c[0], c[1], pick) || n.Double(c[0], c[1], pick) {
						t.Errorf("P302: Drop, Double of %d, %d: true", c[0], c[1])
					}
				}
			}
		}
		n.Clear(x)
		is(t, "P301 to P303", n, was)
	}
}
