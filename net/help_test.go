package net_test

import (
	"math"
	"strconv"
	"strings"
	"testing"

	"glacier/api"
	"glacier/net"
)

// made tells a new net.
func made(t *testing.T, nodes, bound int) *net.Net {
	t.Helper()
	n, err := net.New(nodes, bound)
	if err != api.OK || n == nil {
		t.Fatalf("P301: New(%d, %d): %v, %v", nodes, bound, n, err)
	}
	return n
}

// lay sends texts over a link that must have room for them.
func lay(t *testing.T, n *net.Net, from, to int, texts ...string) {
	t.Helper()
	for _, s := range texts {
		if k := n.Send(from, []byte(s), to); k != 1 {
			t.Fatalf("P301: Send(%d, %q, %d): %d; want 1", from, s, to, k)
		}
	}
}

// show tells all that calls tell of a net, so that two states of nets can be held against each other: the
// time, how many messages there are, and link by link its messages. A bag is gone round once: each message
// is delivered, and sent again.
func show(t *testing.T, n *net.Net) string {
	t.Helper()
	l := []string{strconv.Itoa(n.Now()) + ", " + strconv.Itoa(n.All())}
	for _, link := range n.Links() {
		s := strconv.Itoa(link.From) + ">" + strconv.Itoa(link.To)
		for range link.Count {
			m, is := n.Deliver(link.From, link.To, 0)
			if !is || m.From != link.From || m.To != link.To {
				t.Fatalf("P302: link %v: %v, %v", link, m, is)
			}
			s += " " + string(m.Bytes)
			lay(t, n, link.From, link.To, string(m.Bytes))
		}
		l = append(l, s)
	}
	return strings.Join(l, "; ")
}

// is asks for a state, as show tells it.
func is(t *testing.T, promise string, n *net.Net, want string) {
	t.Helper()
	if s := show(t, n); s != want {
		t.Errorf("%s: the net is %q; want %q", promise, s, want)
	}
}

// far are numbers at the ends of what an int can be.
func far() []int { return []int{math.MinInt, math.MinInt + 1, math.MaxInt - 1, math.MaxInt} }

// noNodes are no nodes of a net of so many, those among them for which a number of two or four bytes, or a
// place in a table of links, would be taken for a node's.
func noNodes(nodes int) []int {
	return append(far(), -1, -2, -nodes, nodes, nodes+1, 2*nodes, nodes*nodes, api.MaxNodes, 255, 256, 1<<16, 1<<32, -1<<32, 1<<32+1, math.MinInt+nodes)
}
