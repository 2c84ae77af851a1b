package compact_test

import (
	"strings"
	"testing"

	"glacier/api"
	"glacier/compact"
)

func TestP903Size(t *testing.T) {
	for _, c := range []struct {
		e    api.Entry
		want int
	}{
		{api.Entry{}, 16},
		{api.Entry{Seq: greatest, Gone: true}, 16},
		{value("a", 1, ""), 17},
		{value("", 1, "x"), 17},
		{value("key", 7, "value"), 24},
		{gone("key", 7), 19},
		{api.Entry{Key: "key", Gone: true, Value: []byte("value")}, 24},
		{value("\xFF\x80é", 1, "\x00é"), 23},
		{api.Entry{Key: strings.Repeat("k", 70000), Value: make([]byte, 1<<20, 1<<21)}, 70000 + 1<<20 + 16},
	} {
		if got := compact.Size(c.e); got != c.want {
			t.Errorf("P903: Size of a Key of %d bytes and a Value of %d tells %d; want %d", len(c.e.Key), len(c.e.Value), got, c.want)
		}
	}
}

// refused asks Run for an error, and nothing beside it.
func refused(t *testing.T, want api.Errno, size int, lists ...[]api.Entry) {
	t.Helper()
	for _, bottom := range []bool{false, true} {
		if l, err := compact.Run(3, bottom, size, lists...); len(l) != 0 || err != want {
			t.Errorf("P903: Run to size %d of %q tells %q, %v; want nothing, %v", size, showAll(lists), showAll(l), err, want)
		}
	}
}

func TestP903RunRefuses(t *testing.T) {
	right := row("a 3 x, b 2 y")
	for _, size := range []int{0, -1, -greatestInt - 1} {
		refused(t, api.ErrArg, size, right)
		refused(t, api.ErrArg, size)
		refused(t, api.ErrArg, size, row("b 1 x, a 1 x"))
	}
	for _, wrong := range [][]api.Entry{
		row("b 1 x, a 1 x"),
		row("a 1 x, a 2 x"),
		row("a 1 x, a 1 x"),
		row("a 3 x, b 2 x, d 1 x, c 1 x"),
		{{Key: "a", Seq: 1, Gone: true, Value: []byte("x")}},
	} {
		for _, size := range []int{1, 40, greatestInt} {
			refused(t, api.ErrOrder, size, wrong)
			refused(t, api.ErrOrder, size, wrong, right)
			refused(t, api.ErrOrder, size, right, nil, wrong)
			refused(t, api.ErrOrder, size, wrong, wrong)
		}
	}
}

// TestP903RunWithoutEntries tells no lists, of none, of empty ones, and where all is pruned.
func TestP903RunWithoutEntries(t *testing.T) {
	for _, lists := range [][][]api.Entry{nil, {nil}, {{}}, {nil, {}, nil}} {
		for _, bottom := range []bool{false, true} {
			l, err := compact.Run(0, bottom, 1, lists...)
			parted(t, l, err, "")
			if l != nil {
				t.Errorf("P903: Run of no entries tells %v", l)
			}
		}
	}
	l, err := compact.Run(3, true, 1, row("a 3 gone, a 1 x, b 2 gone"), row("c 1 gone"))
	parted(t, l, err, "")
	l, err = compact.Run(3, true, 1, nil, row("a 1 x"), nil)
	parted(t, l, err, "a 1 x")
}

// TestP903WhereListsEnd: each of the entries has 18 bytes.
func TestP903WhereListsEnd(t *testing.T) {
	l := row("a 1 x, b 1 x, c 1 x, d 1 x, e 1 x")
	for _, c := range []struct {
		size int
		want string
	}{
		{1, "a 1 x | b 1 x | c 1 x | d 1 x | e 1 x"},
		{17, "a 1 x | b 1 x | c 1 x | d 1 x | e 1 x"},
		{18, "a 1 x | b 1 x | c 1 x | d 1 x | e 1 x"},
		{19, "a 1 x, b 1 x | c 1 x, d 1 x | e 1 x"},
		{35, "a 1 x, b 1 x | c 1 x, d 1 x | e 1 x"},
		{36, "a 1 x, b 1 x | c 1 x, d 1 x | e 1 x"},
		{37, "a 1 x, b 1 x, c 1 x | d 1 x, e 1 x"},
		{54, "a 1 x, b 1 x, c 1 x | d 1 x, e 1 x"},
		{55, "a 1 x, b 1 x, c 1 x, d 1 x | e 1 x"},
		{72, "a 1 x, b 1 x, c 1 x, d 1 x | e 1 x"},
		{73, "a 1 x, b 1 x, c 1 x, d 1 x, e 1 x"},
		{90, "a 1 x, b 1 x, c 1 x, d 1 x, e 1 x"},
		{91, "a 1 x, b 1 x, c 1 x, d 1 x, e 1 x"},
		{greatestInt, "a 1 x, b 1 x, c 1 x, d 1 x, e 1 x"},
	} {
		for cut := range len(l) + 1 {
			lists, err := compact.Run(9, false, c.size, l[cut:], l[:cut])
			parted(t, lists, err, c.want)
		}
	}
}

// TestP903SizesCountFromEachListsBegin: what one list has too much is not taken from the next one.
func TestP903SizesCountFromEachListsBegin(t *testing.T) {
	l := append(row("a 1 x"), value("b", 1, strings.Repeat("v", 500)))
	l = append(l, row("c 1 x, d 1 x, e 1 x, f 1 x")...)
	lists, err := compact.Run(9, false, 36, l)
	parted(t, lists, err, "a 1 x, b 1 "+strings.Repeat("v", 500)+" | c 1 x, d 1 x | e 1 x, f 1 x")
}

func TestP903SizesAreThoseOfWhatIsLeft(t *testing.T) {
	// What is pruned, or told of another list, has no size.
	lists, err := compact.Run(9, true, 36, row("a 5 x, a 4 x, a 3 x, b 5 gone, c 5 x, d 5 x"), row("a 5 y, c 5 y, c 4 z, e 1 y"))
	parted(t, lists, err, "a 5 x, c 5 x | d 5 x, e 1 y")
	// Without Key, without Value: 16 and 17 bytes.
	lists, err = compact.Run(0, false, 33, []api.Entry{value("", 1, ""), gone("a", 1), gone("b", 1), value("c", 1, "")})
	parted(t, lists, err, " 1 , a 1 gone | b 1 gone, c 1 ")
	lists, err = compact.Run(0, false, 34, []api.Entry{value("", 1, ""), gone("a", 1), gone("b", 1), value("c", 1, "")})
	parted(t, lists, err, " 1 , a 1 gone, b 1 gone | c 1 ")
}

func TestP903AKeyOfManyVersions(t *testing.T) {
	many := "k 9 x, k 8 x, k 7 gone, k 6 x, k 5 x"
	for _, c := range []struct {
		size      int
		lists     []string
		remaining string
	}{
		{1, []string{many}, many},
		{18, []string{many + ", l 1 x"}, many + " | l 1 x"},
		{18, []string{"a 1 x, " + many}, "a 1 x | " + many},
		{19, []string{"a 1 x, " + many + ", l 1 x"}, "a 1 x, " + many + " | l 1 x"},
		// The size is come to just with its last version, or with one within.
		{89, []string{many + ", l 1 x"}, many + " | l 1 x"},
		{90, []string{many + ", l 1 x"}, many + ", l 1 x"},
		{54, []string{many + ", l 1 x, m 1 x"}, many + " | l 1 x, m 1 x"},
		// Of several lists.
		{18, []string{"k 9 x, k 5 x", "k 8 x, k 7 gone, l 1 x", "j 1 x, k 6 x"}, "j 1 x | " + many + " | l 1 x"},
	} {
		var l [][]api.Entry
		for _, text := range c.lists {
			l = append(l, row(text))
		}
		lists, err := compact.Run(0, false, c.size, l...)
		parted(t, lists, err, c.remaining)
	}
}

func TestP903KeysThatBeginAlike(t *testing.T) {
	lists, err := compact.Run(0, false, 1, row("a 2 x, a 1 x, aa 2 x, ab 1 x"))
	parted(t, lists, err, "a 2 x, a 1 x | aa 2 x | ab 1 x")
	lists, err = compact.Run(0, false, 1, []api.Entry{value("", 2, ""), value("", 1, ""), value("\x00", 1, ""), value("\x00\x00", 1, "")})
	parted(t, lists, err, " 2 ,  1  | \x00 1  | \x00\x00 1 ")
}

func TestP903Keep(t *testing.T) {
	l := row("a 5 x, a 3 gone, a 1 y, b 4 gone, b 0 z, c 0 gone, d 2 x")
	huge := []api.Entry{gone("z", greatest), value("z", greatest-1, "x"), gone("z", greatest-2)}
	for _, c := range []struct {
		keep   uint64
		bottom bool
		want   string
		huge   []api.Entry
	}{
		{0, false, "a 5 x, a 3 gone, a 1 y, b 4 gone, b 0 z, c 0 gone, d 2 x", huge},
		{0, true, "a 5 x, a 3 gone, a 1 y, b 4 gone, b 0 z, d 2 x", huge},
		{3, false, "a 5 x, a 3 gone, b 4 gone, b 0 z, c 0 gone, d 2 x", huge},
		{3, true, "a 5 x, b 4 gone, b 0 z, d 2 x", huge},
		{4, false, "a 5 x, a 3 gone, b 4 gone, c 0 gone, d 2 x", huge},
		{4, true, "a 5 x, d 2 x", huge},
		{greatest - 2, false, "a 5 x, b 4 gone, c 0 gone, d 2 x", huge},
		{greatest - 2, true, "a 5 x, d 2 x", huge[:2]},
		{greatest - 1, false, "a 5 x, b 4 gone, c 0 gone, d 2 x", huge[:2]},
		{greatest - 1, true, "a 5 x, d 2 x", huge[:2]},
		{greatest, false, "a 5 x, b 4 gone, c 0 gone, d 2 x", huge[:1]},
		{greatest, true, "a 5 x, d 2 x", nil},
	} {
		lists, err := compact.Run(c.keep, c.bottom, 1<<20, l)
		parted(t, lists, err, c.want)
		lists, err = compact.Run(c.keep, c.bottom, 1, huge)
		parted(t, lists, err, show(c.huge))
	}
}

// TestP903TheFirstListIsTaken of several with the same Key and Seq.
func TestP903TheFirstListIsTaken(t *testing.T) {
	a, b, c := row("a 2 one, b 1 one"), row("a 2 gone, a 1 two"), row("b 1 three, c 1 three")
	lists, err := compact.Run(0, false, 1<<10, a, b, c)
	parted(t, lists, err, "a 2 one, a 1 two, b 1 one, c 1 three")
	lists, err = compact.Run(0, false, 1<<10, c, b, a)
	parted(t, lists, err, "a 2 gone, a 1 two, b 1 three, c 1 three")
}
