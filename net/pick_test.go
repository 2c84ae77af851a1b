package net_test

import (
	"math"
	"testing"

	"glacier/net"
)

// four tells a net with the messages a to d on the link from 0 to 1, and others on the links beside it.
func four(t *testing.T, bound int) *net.Net {
	t.Helper()
	n := made(t, 2, bound)
	lay(t, n, 1, 0, "back")
	lay(t, n, 0, 1, "a", "b", "c", "d")
	lay(t, n, 1, 1, "p", "q")
	is(t, "P301", n, "0, 7; 0>1 a b c d; 1>0 back; 1>1 p q")
	return n
}

// picks tells, of four messages, which one a pick means.
func picks() map[int]string {
	return map[int]string{
		0: "a", 1: "b", 2: "c", 3: "d", 4: "a", 5: "b", 6: "c", 7: "d", 8: "a", 4002: "c",
		-1: "a", -2: "a", -3: "a", -4: "a", -5: "a", -7: "a", math.MinInt: "a", math.MinInt + 3: "a",
		math.MaxInt: "d", math.MaxInt - 1: "c", math.MaxInt - 2: "b", 1 << 32: "a", 1<<32 + 1: "b",
	}
}

func TestP302Deliver(t *testing.T) {
	left := map[string]string{"a": "b c d", "b": "a c d", "c": "a b d", "d": "a b c"}
	for pick, want := range picks() {
		n := four(t, 4)
		if m, ok := n.Deliver(0, 1, pick); !ok || m.From != 0 || m.To != 1 || string(m.Bytes) != want {
			t.Errorf("P302: Deliver, pick %d: %v, %v; want %s", pick, m, ok, want)
		}
		is(t, "P302", n, "0, 6; 0>1 "+left[want]+"; 1>0 back; 1>1 p q")
	}
}

func TestP302Drop(t *testing.T) {
	left := map[string]string{"a": "b c d", "b": "a c d", "c": "a b d", "d": "a b c"}
	for pick, want := range picks() {
		n := four(t, 4)
		if !n.Drop(0, 1, pick) {
			t.Errorf("P302: Drop, pick %d: false", pick)
		}
		is(t, "P302", n, "0, 6; 0>1 "+left[want]+"; 1>0 back; 1>1 p q")
	}
}

func TestP302Double(t *testing.T) {
	for pick, want := range picks() {
		n := four(t, 5)
		if !n.Double(0, 1, pick) {
			t.Errorf("P302: Double, pick %d: false", pick)
		}
		all := "0, 8; 0>1 a b c d " + want + "; 1>0 back; 1>1 p q"
		is(t, "P302", n, all)
		if n.Double(0, 1, pick) {
			t.Errorf("P302: Double of a full bag, pick %d: true", pick)
		}
		is(t, "P302", n, all)
	}
}

func TestP302TheLastOneAndNone(t *testing.T) {
	for _, pick := range append(far(), -2, -1, 0, 1, 2, 3) {
		for _, call := range []func(n *net.Net) bool{
			func(n *net.Net) bool { m, ok := n.Deliver(1, 0, pick); return ok && string(m.Bytes) == "back" },
			func(n *net.Net) bool { return n.Drop(1, 0, pick) },
		} {
			n := four(t, 4)
			if !call(n) {
				t.Errorf("P302: of one message, pick %d: false", pick)
			}
			is(t, "P302", n, "0, 6; 0>1 a b c d; 1>1 p q")
			m, ok := n.Deliver(1, 0, pick)
			if ok || m.From != 0 || m.To != 0 || len(m.Bytes) != 0 {
				t.Errorf("P302: of none, Deliver: %v, %v", m, ok)
			}
			if n.Drop(1, 0, pick) || n.Double(1, 0, pick) {
				t.Errorf("P302: of none, pick %d: Drop or Double is true", pick)
			}
			is(t, "P302", n, "0, 6; 0>1 a b c d; 1>1 p q")
		}
	}
}

func TestP302ANodeWithItself(t *testing.T) {
	n := made(t, 1, 3)
	lay(t, n, 0, 0, "a", "b")
	if !n.Double(0, 0, 1) || n.Double(0, 0, 0) {
		t.Error("P302: Double of a link of a node with itself")
	}
	is(t, "P302", n, "0, 3; 0>0 a b b")
	if m, ok := n.Deliver(0, 0, 4); !ok || m.From != 0 || m.To != 0 || string(m.Bytes) != "b" {
		t.Errorf("P302: Deliver: %v, %v; want b", m, ok)
	}
	if !n.Drop(0, 0, -9) {
		t.Error("P302: Drop: false")
	}
	is(t, "P302", n, "0, 1; 0>0 b")
}

func TestP302ABoundOfOne(t *testing.T) {
	n := made(t, 2, 1)
	lay(t, n, 0, 1, "a")
	if n.Double(0, 1, 0) || n.Send(0, []byte("b"), 1) != 0 {
		t.Error("P302: a full bag takes one more")
	}
	is(t, "P302", n, "0, 1; 0>1 a")
	n.Deliver(0, 1, 0)
	lay(t, n, 0, 1, "b")
	is(t, "P302", n, "0, 1; 0>1 b")
}

// TestP302ALinkGoesOn lets a bag be long and short in turn, taken from its front, its middle and its end.
func TestP302ALinkGoesOn(t *testing.T) {
	n := made(t, 2, 50)
	var want []string
	for i := range 3000 {
		s := string(rune('a' + i%26))
		if (i/60)%2 == 0 || i%8 == 0 {
			laid := n.Send(0, []byte(s), 1)
			if (laid == 1) != (len(want) < 50) {
				t.Fatalf("P301: step %d: of %d messages, Send: %d", i, len(want), laid)
			}
			if laid == 1 {
				want = append(want, s)
			}
			continue
		}
		m, ok := n.Deliver(0, 1, i)
		if ok != (len(want) > 0) {
			t.Fatalf("P302: step %d: of %d messages, Deliver: %v", i, len(want), ok)
		}
		if !ok {
			continue
		}
		at := i % len(want)
		if string(m.Bytes) != want[at] {
			t.Fatalf("P302: step %d: pick %d of %v: %s", i, i, want, m.Bytes)
		}
		want = append(want[:at:at], want[at+1:]...)
	}
}
