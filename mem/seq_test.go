package mem_test

import (
	"strconv"
	"testing"

	"glacier/api"
	"glacier/mem"
)

func TestP503ASequenceMadeAheadOfPuts(t *testing.T) {
	for _, draws := range someDraws() {
		x := mem.New(draws...)
		none := x.All()
		x.Put(value("b", 2, "y"))
		one, behind := x.All(), x.From("c")
		x.Put(value("a", 1, "x"))
		x.Put(value("c", 3, "z"))
		three, two := x.All(), x.From("b")
		x.Put(gone("b", 2))
		x.Put(value("b", 9, "new"))
		again := x.From("a\x00")
		x.Put(value("b", 2, "back"))
		x.Put(gone("c", 3))
		for range 2 {
			over(t, "P503", none, "")
			over(t, "P503", one, "b 2 y")
			over(t, "P503", behind, "")
			over(t, "P503", three, "a 1 x, b 2 y, c 3 z")
			over(t, "P503", two, "b 2 y, c 3 z")
			over(t, "P503", again, "b 9 new, b 2 gone, c 3 z")
			over(t, "P503", x.All(), "a 1 x, b 9 new, b 2 back, c 3 gone")
		}
	}
}

// TestP503OfWhatIsNotOverYet puts, while a sequence is gone over, what it has told, what it has not, and what is new.
func TestP503OfWhatIsNotOverYet(t *testing.T) {
	for _, draws := range someDraws() {
		for step := range 3 {
			x := table(draws, value("a", 1, "x"), value("c", 1, "y"), value("e", 1, "z"))
			all := x.All()
			s, i := "", 0
			for e := range all {
				s += word(e) + ", "
				if i == step {
					for _, key := range []string{"a", "b", "c", "d", "e", "f"} {
						x.Put(value(key, 1, "new"))
						x.Put(gone(key, 1))
						x.Put(value(key, 0, "old"))
						x.Put(value(key, 2, "newest"))
					}
				}
				i++
			}
			if s != "a 1 x, c 1 y, e 1 z, " {
				t.Errorf("P503: with puts behind step %d a sequence tells %q", step, s)
			}
			over(t, "P7", all, "a 1 x, c 1 y, e 1 z")
			over(t, "P503", x.From("e"), "e 2 newest, e 1 gone, e 0 old, f 2 newest, f 1 gone, f 0 old")
		}
	}
}

func TestP503PutsAtEachStep(t *testing.T) {
	x := table([]int{0, 2, 1})
	for i := range 30 {
		x.Put(value(strconv.Itoa(10+i), 1, "x"))
	}
	was := tell(x.All())
	all, i := x.All(), 0
	for e := range all {
		if i == 30 || word(e) != word(value(strconv.Itoa(10+i), 1, "x")) {
			t.Fatalf("P503: step %d tells %s", i, word(e))
		}
		e.Value = []byte("y")
		x.Put(e)
		x.Put(value(strconv.Itoa(11+i), 1, "next"))
		x.Put(value(e.Key+"0", 1, "between"))
		i++
	}
	if i != 30 || x.Len() != 61 {
		t.Errorf("P503: %d steps make %d versions; want 30, 61", i, x.Len())
	}
	over(t, "P503", all, was)
}

func TestP7ASequenceThatIsLeftEarly(t *testing.T) {
	for _, draws := range someDraws() {
		x := table(draws, value("a", 2, "x"), gone("a", 1), value("b", 1, "y"), value("c", 1, "z"))
		all := x.All()
		x.Put(value("c", 1, "new"))
		want := []string{"a 2 x", "a 1 gone", "b 1 y", "c 1 z"}
		for steps := range 4 {
			i := 0
			for e := range all {
				if word(e) != want[i] {
					t.Errorf("P7: step %d tells %s; want %s", i, word(e), want[i])
				}
				if i == steps {
					break
				}
				i++
			}
			over(t, "P7", all, "a 2 x, a 1 gone, b 1 y, c 1 z")
		}
	}
}

func TestP7AYieldThatHasAnsweredFalseIsNotCalled(t *testing.T) {
	x := table(nil, value("a", 1, ""), value("b", 1, ""), value("c", 1, ""))
	for steps := 1; steps <= 3; steps++ {
		calls := 0
		x.From("a")(func(api.Entry) bool {
			calls++
			return calls < steps
		})
		if calls != steps {
			t.Errorf("P7: a sequence that is left at step %d goes on to %d", steps, calls)
		}
	}
}

func TestP7ASequenceWithinItself(t *testing.T) {
	x := table([]int{1, 0}, value("a", 1, "x"), value("b", 1, "y"))
	all := x.All()
	s := ""
	for a := range all {
		x.Put(value("b", 1, "new"))
		for b := range all {
			s += string(a.Value) + string(b.Value) + " "
		}
	}
	if s != "xx xy yx yy " {
		t.Errorf("P7: a sequence within itself tells %q", s)
	}
}

func TestP7TablesAreApart(t *testing.T) {
	draws := []int{0, 5}
	a, b := mem.New(draws...), mem.New(draws...)
	a.Put(value("a", 1, "x"))
	a.Put(value("b", 1, "x"))
	is(t, "P7", b, "0, 0: ")
	b.Put(value("a", 1, "y"))
	is(t, "P7", a, "2, 36: a 1 x, b 1 x")
	is(t, "P7", b, "1, 18: a 1 y")
	if a.Height() != 6 || b.Height() != 1 {
		t.Errorf("P7: heights %d, %d; want 6, 1", a.Height(), b.Height())
	}
}
