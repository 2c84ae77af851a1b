package net_test

import (
	"math/rand"
	"slices"
	"strconv"
	"strings"
	"testing"

	"glacier/net"
)

// model goes by the words of the chapter, without care for time: all messages lie in one list, in the
// order in which they came.
type model struct {
	nodes, bound, now int
	list              []packet
}

type packet struct {
	from, to int
	text     string
}

// places tells where in the list the messages of a link are.
func (m *model) places(from, to int) []int {
	var l []int
	for i, p := range m.list {
		if p.from == from && p.to == to {
			l = append(l, i)
		}
	}
	return l
}

func (m *model) send(from int, text string, to []int) int {
	laid := 0
	for _, x := range to {
		if from < 0 || from >= m.nodes || x < 0 || x >= m.nodes || len(m.places(from, x)) >= m.bound {
			continue
		}
		m.list = append(m.list, packet{from, x, text})
		laid++
	}
	return laid
}

// meant tells where in the list the message is that a pick means; -1 without one.
func (m *model) meant(from, to, pick int) int {
	l := m.places(from, to)
	switch {
	case len(l) == 0:
		return -1
	case pick < 0:
		return l[0]
	}
	return l[pick%len(l)]
}

func (m *model) take(from, to, pick int) (string, bool) {
	i := m.meant(from, to, pick)
	if i < 0 {
		return "", false
	}
	text := m.list[i].text
	m.list = slices.Delete(m.list, i, i+1)
	return text, true
}

func (m *model) double(from, to, pick int) bool {
	i := m.meant(from, to, pick)
	if i < 0 || len(m.places(from, to)) == m.bound {
		return false
	}
	m.list = append(m.list, m.list[i])
	return true
}

func (m *model) clear(node int) {
	m.list = slices.DeleteFunc(m.list, func(p packet) bool { return p.from == node || p.to == node })
}

// show tells what show of the net must tell.
func (m *model) show() string {
	l := []string{strconv.Itoa(m.now) + ", " + strconv.Itoa(len(m.list))}
	for from := range m.nodes {
		for to := range m.nodes {
			at := m.places(from, to)
			if len(at) == 0 {
				continue
			}
			s := strconv.Itoa(from) + ">" + strconv.Itoa(to)
			for _, i := range at {
				s += " " + m.list[i].text
			}
			l = append(l, s)
		}
	}
	return strings.Join(l, "; ")
}

// call is one of a run: what is called, and with what.
type call struct {
	kind           string
	from, to, pick int
	text           string
	receivers      []int
}

// on does the call on a net, and tells what it answers.
func (c call) on(n *net.Net) string {
	switch c.kind {
	case "send":
		return strconv.Itoa(n.Send(c.from, []byte(c.text), c.receivers...))
	case "deliver":
		m, is := n.Deliver(c.from, c.to, c.pick)
		if !is && (m.From != 0 || m.To != 0 || len(m.Bytes) != 0) || is && (m.From != c.from || m.To != c.to) {
			return "a wrong message"
		}
		return string(m.Bytes) + " " + strconv.FormatBool(is)
	case "drop":
		return strconv.FormatBool(n.Drop(c.from, c.to, c.pick))
	case "double":
		return strconv.FormatBool(n.Double(c.from, c.to, c.pick))
	case "clear":
		n.Clear(c.from)
		return ""
	}
	return strconv.Itoa(n.Tick())
}

// onModel does the call on a model, and tells what it must answer.
func (c call) onModel(m *model) string {
	switch c.kind {
	case "send":
		return strconv.Itoa(m.send(c.from, c.text, c.receivers))
	case "deliver":
		text, is := m.take(c.from, c.to, c.pick)
		return text + " " + strconv.FormatBool(is)
	case "drop":
		_, is := m.take(c.from, c.to, c.pick)
		return strconv.FormatBool(is)
	case "double":
		return strconv.FormatBool(m.double(c.from, c.to, c.pick))
	case "clear":
		m.clear(c.from)
		return ""
	}
	m.now++
	return strconv.Itoa(m.now)
}

// anyNode tells one of a net of so many, or, now and then, what is none.
func anyNode(draw *rand.Rand, nodes int) int {
	if draw.Intn(15) == 0 {
		return noNodes(nodes)[draw.Intn(len(noNodes(nodes)))]
	}
	return draw.Intn(nodes)
}

// anyCall tells a call; the texts of no two that are sent are the same.
func anyCall(draw *rand.Rand, nodes, i int) call {
	c := call{from: anyNode(draw, nodes), to: anyNode(draw, nodes), pick: draw.Intn(40) - 8, text: "m" + strconv.Itoa(i)}
	switch k := draw.Intn(40); {
	case k < 15:
		c.kind = "send"
		for range draw.Intn(5) {
			c.receivers = append(c.receivers, anyNode(draw, nodes))
		}
	case k < 24:
		c.kind = "deliver"
	case k < 29:
		c.kind = "drop"
	case k < 37:
		c.kind = "double"
	case k < 39:
		c.kind = "tick"
	default:
		c.kind = "clear"
	}
	return c
}

func TestP301ToP303OfAnyCalls(t *testing.T) {
	for seed := range 60 {
		draw := rand.New(rand.NewSource(int64(seed)))
		nodes, bound := 1+draw.Intn(4), 1+draw.Intn(7)
		n, m := made(t, nodes, bound), model{nodes: nodes, bound: bound}
		for i := range 400 {
			was := m.show()
			c := anyCall(draw, nodes, i)
			got, want := c.on(n), c.onModel(&m)
			if s := show(t, n); got != want || s != m.show() {
				t.Fatalf("P301 to P303: seed %d, step %d: %v of %q: %q, %q; want %q, %q", seed, i, c, was, got, s, want, m.show())
			}
		}
	}
}

// TestP304NothingIsMadeUp counts, link by link, what is sent, doubled and delivered, and message by message
// how often it is told.
func TestP304NothingIsMadeUp(t *testing.T) {
	for seed := range 40 {
		draw := rand.New(rand.NewSource(int64(seed)))
		n := made(t, 3, 6)
		sent, told := map[packet]int{}, map[packet]int{}
		came, went := map[[2]int]int{}, map[[2]int]int{}
		for i := range 500 {
			c := anyCall(draw, 3, i)
			link := [2]int{c.from, c.to}
			switch c.kind {
			case "send":
				for _, to := range c.receivers {
					k := n.Send(c.from, []byte(c.text), to)
					sent[packet{c.from, to, c.text}] += k
					came[[2]int{c.from, to}] += k
				}
			case "double":
				if n.Double(c.from, c.to, c.pick) {
					came[link]++
				}
			case "deliver":
				m, is := n.Deliver(c.from, c.to, c.pick)
				if !is {
					continue
				}
				told[packet{m.From, m.To, string(m.Bytes)}]++
				went[link]++
			default:
				c.on(n)
			}
		}
		more := map[[2]int]int{}
		for p, k := range told {
			if sent[p] == 0 {
				t.Errorf("P304: seed %d: %v is delivered, and was not sent", seed, p)
			}
			more[[2]int{p.from, p.to}] += max(k-sent[p], 0)
		}
		for link, k := range went {
			if k > came[link] || more[link] > came[link] {
				t.Errorf("P304: seed %d: on %v, %d came, %d were delivered", seed, link, came[link], k)
			}
		}
	}
}

func TestP304WithoutDoublesEachIsToldOnce(t *testing.T) {
	n := made(t, 2, 400)
	told := map[string]int{}
	tell := func(pick int) {
		if m, is := n.Deliver(0, 1, pick); is {
			told[string(m.Bytes)]++
		}
	}
	for i := range 400 {
		lay(t, n, 0, 1, strconv.Itoa(i))
		if i%3 != 0 {
			tell(i * i)
		}
	}
	for range 400 {
		tell(len(told))
	}
	if len(told) != 400 || n.All() != 0 {
		t.Errorf("P304: of 400 messages %d were told, %d are left", len(told), n.All())
	}
	for text, k := range told {
		if k != 1 {
			t.Errorf("P304: %s was sent once and told %d times", text, k)
		}
	}
}

// ofLink tells what of a call bears on a link alone; false, if nothing does.
func (c call) ofLink(from, to int) (call, bool) {
	switch c.kind {
	case "send":
		c.receivers = slices.DeleteFunc(slices.Clone(c.receivers), func(x int) bool { return x != to })
		return c, c.from == from && len(c.receivers) > 0
	case "clear":
		return c, c.from == from || c.from == to
	case "tick":
		return c, false
	}
	return c, c.from == from && c.to == to
}

// TestP304NoLinkHangsOnAnother does any calls on a net, and those of each link alone on a net of its own.
func TestP304NoLinkHangsOnAnother(t *testing.T) {
	for seed := range 30 {
		draw := rand.New(rand.NewSource(int64(seed)))
		n := made(t, 3, 3)
		var alone [3][3]*net.Net
		for from := range 3 {
			for to := range 3 {
				alone[from][to] = made(t, 3, 3)
			}
		}
		for i := range 300 {
			c := anyCall(draw, 3, i)
			if c.kind == "send" && len(c.receivers) > 0 {
				c.receivers = c.receivers[:1]
			}
			got := c.on(n)
			for from := range 3 {
				for to := range 3 {
					of, does := c.ofLink(from, to)
					if !does {
						continue
					}
					if want := of.on(alone[from][to]); got != want {
						t.Fatalf("P304: seed %d, step %d: %v: %q; alone %q", seed, i, c, got, want)
					}
				}
			}
		}
		all := 0
		for from := range 3 {
			for to := range 3 {
				all += alone[from][to].All()
			}
		}
		if n.All() != all {
			t.Errorf("P304: seed %d: %d messages; alone %d", seed, n.All(), all)
		}
	}
}

func TestP3TheSameCallsAnswerTheSame(t *testing.T) {
	tell := func() []string {
		var l []string
		draw := rand.New(rand.NewSource(9))
		n := made(t, 4, 3)
		for i := range 300 {
			l = append(l, anyCall(draw, 4, i).on(n)+" "+show(t, n))
		}
		return l
	}
	if a, b := tell(), tell(); !slices.Equal(a, b) {
		t.Errorf("P3: two runs of the same calls tell %q and %q", a, b)
	}
}

func TestP1CallsOfAnyData(t *testing.T) {
	numbers := append(noNodes(2), 0, 1)
	n := made(t, 2, 3)
	for _, a := range numbers {
		for _, b := range numbers {
			n.Send(a, nil, b, a, b)
			n.Send(a, []byte("x"), numbers...)
			for _, pick := range numbers {
				n.Double(a, b, pick)
				n.Deliver(a, b, pick)
				n.Drop(b, a, pick)
			}
			n.Links()
			n.Tick()
		}
		n.Clear(a)
	}
	if n.All() < 0 || n.All() > 12 {
		t.Errorf("P301: a net of 4 links of 3 has %d messages", n.All())
	}
}
