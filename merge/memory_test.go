package merge_test

import (
	"bytes"
	"iter"
	"runtime"
	"slices"
	"testing"

	"glacier/api"
	"glacier/merge"
)

// scribble writes over a slice and its spare room.
func scribble(b []byte) {
	b = b[:cap(b)]
	for i := range b {
		b[i] = '?'
	}
}

// spoilAll writes over all entries of a list, those in its spare room too, and over their Values.
func spoilAll(l []api.Entry) {
	l = l[:cap(l)]
	for i := range l {
		scribble(l[i].Value)
		l[i] = api.Entry{Key: "?", Value: []byte("?")}
	}
}

// roomy is a list that is right, has spare room with entries in it, and Values that all lie in one memory.
type roomy struct {
	memory []byte
	list   []api.Entry
}

func newRoomy() *roomy {
	m := []byte("xyzuvwROOM")
	return &roomy{memory: m, list: []api.Entry{
		{Key: "a", Seq: 3, Value: m[:3]},
		{Key: "a", Seq: 2, Gone: true, Value: m[3:3]},
		{Key: "a", Seq: 1, Value: m[3:6]},
		{Key: "b", Seq: 1, Value: m[:2]},
		{Key: "c", Seq: 1, Gone: true, Value: m[6:6]},
		{Key: "room", Seq: 9, Value: m[6:]},
	}[:5]}
}

const inRoomy = "a 3 xyz, a 2 gone, a 1 uvw, b 1 xy, c 1 gone"

// unchanged asks that it is as it was made.
func (r *roomy) unchanged(t *testing.T, call string) {
	t.Helper()
	if s := show(r.list[:6]); s != inRoomy+", room 9 ROOM" || string(r.memory) != "xyzuvwROOM" {
		t.Errorf("P2: behind %s what was handed in is %q, %q", call, s, r.memory)
	}
}

// calls are those that tell a list of a list, with what they tell of a roomy one.
func calls() map[string]func(l []api.Entry) ([]api.Entry, string) {
	return map[string]func(l []api.Entry) ([]api.Entry, string){
		"Merge": func(l []api.Entry) ([]api.Entry, string) {
			all, _ := merge.Merge(l)
			return all, inRoomy
		},
		"Merge of it twice": func(l []api.Entry) ([]api.Entry, string) {
			all, _ := merge.Merge(l, nil, l)
			return all, inRoomy
		},
		"Cursor": func(l []api.Entry) ([]api.Entry, string) {
			return slices.Collect(merge.Cursor(slices.Values(l))), inRoomy
		},
		"Cursor of it twice": func(l []api.Entry) ([]api.Entry, string) {
			return slices.Collect(merge.Cursor(slices.Values(l), slices.Values(l))), inRoomy
		},
		"Seen": func(l []api.Entry) ([]api.Entry, string) {
			seen, _ := merge.Seen(l, 1)
			return seen, "a 1 uvw, b 1 xy"
		},
		"Prune": func(l []api.Entry) ([]api.Entry, string) {
			left, _ := merge.Prune(l, 0, true)
			return left, inRoomy
		},
		"Prune of some": func(l []api.Entry) ([]api.Entry, string) {
			left, _ := merge.Prune(l, 2, false)
			return left, "a 3 xyz, a 2 gone, b 1 xy, c 1 gone"
		},
	}
}

func TestP2WhatIsHandedInIsNotChanged(t *testing.T) {
	for name, call := range calls() {
		r := newRoomy()
		l, want := call(r.list)
		is(t, "P2: "+name, l, api.OK, want)
		r.unchanged(t, name)
		spoilAll(l)
		r.unchanged(t, name+" and writes over what it told")
		if again, _ := call(r.list); show(again) != want {
			t.Errorf("P2: %s tells %q the next time; want %q", name, show(again), want)
		}
	}
}

func TestP2WhatIsHandedInIsNotKept(t *testing.T) {
	for name, call := range calls() {
		r := newRoomy()
		l, want := call(r.list)
		spoilAll(r.list)
		scribble(r.memory)
		is(t, "P2: "+name+" and writes over what was handed in", l, api.OK, want)
	}
}

// TestP2AnswersShareNothing writes over the Values of each entry that is told, spare room too, and asks for all others.
func TestP2AnswersShareNothing(t *testing.T) {
	for name, call := range calls() {
		l, _ := call(newRoomy().list)
		for i := range l {
			was := string(l[i].Value)
			scribble(l[i].Value)
			_ = append(l[i].Value, "??????????"...)
			l[i].Value = []byte(was)
			if _, want := call(newRoomy().list); show(l) != want {
				t.Errorf("P2: %s tells %q, when a Value that it told is written over; want %q", name, show(l), want)
			}
		}
	}
}

func TestP2RefusedListsAreNotChanged(t *testing.T) {
	for what, bad := range notRight() {
		want := show(bad)
		r := newRoomy()
		merge.Right(bad)
		merge.Merge(r.list, bad, r.list)
		merge.Seen(bad, 2)
		merge.Prune(bad, 2, true)
		for range merge.Cursor(slices.Values(bad), slices.Values(r.list)) {
		}
		r.unchanged(t, "calls with "+what)
		if show(bad) != want {
			t.Errorf("P2: %s is changed to %q", what, show(bad))
		}
	}
}

func TestP2CompareAndRightChangeNothing(t *testing.T) {
	r := newRoomy()
	for _, a := range r.list {
		for _, b := range r.list {
			merge.Compare(a, b)
		}
	}
	if !merge.Right(r.list) {
		t.Error("P601: the list is said not to be right")
	}
	r.unchanged(t, "Compare and Right")
}

// TestP2ListsAreNotKept writes over the rows of lists, and of sequences, that were handed in.
func TestP2ListsAreNotKept(t *testing.T) {
	lists := [][]api.Entry{row("a 1 x"), row("b 1 y"), row("c 1 room")}
	all, _ := merge.Merge(lists[:2]...)
	seqs := sequences(lists)
	seq := merge.Cursor(seqs[:2]...)
	if show(lists[0]) != "a 1 x" || show(lists[2]) != "c 1 room" || show(slices.Collect(seqs[2])) != "c 1 room" {
		t.Error("P2: the rows that were handed in are changed")
	}
	lists[0], lists[1] = nil, nil
	seqs[0], seqs[1] = slices.Values(row("? 1 ?")), nil
	is(t, "P2: Merge", all, api.OK, "a 1 x, b 1 y")
	for range 2 {
		is(t, "P7: Cursor", slices.Collect(seq), api.OK, "a 1 x, b 1 y")
	}
}

// TestP2WhatACursorTellsIsTheCallers writes over each entry in the midst of a loop.
func TestP2WhatACursorTellsIsTheCallers(t *testing.T) {
	r := newRoomy()
	seq := merge.Cursor(slices.Values(r.list), slices.Values(r.list[1:4]))
	for range 2 {
		var told []api.Entry
		for e := range seq {
			told = append(told, e)
			is(t, "P2: Cursor", told[len(told)-1:], api.OK, show(r.list[len(told)-1:len(told)]))
			scribble(e.Value)
			r.unchanged(t, "Cursor and writes over what it told")
		}
	}
}

// scratch tells entries whose Values lie, one behind the other, in the same memory.
func scratch(l []api.Entry, memory []byte) iter.Seq[api.Entry] {
	return func(yield func(api.Entry) bool) {
		defer scribble(memory)
		for _, e := range l {
			e.Value = memory[:copy(memory, e.Value)]
			more := yield(e)
			scribble(memory)
			if !more {
				return
			}
		}
	}
}

// TestP2SourcesThatUseTheirMemoryAgain: sources may write over what they have told as soon as they, or other ones,
// are asked for more.
func TestP2SourcesThatUseTheirMemoryAgain(t *testing.T) {
	memory := make([]byte, 8)
	lists := [][]api.Entry{row("a 1 x, b 1 yy, d 1 "), row("a 2 z, b 2 gone, b 0 uuu"), nil, row("a 2 w, c 1 vvvv")}
	var seqs []iter.Seq[api.Entry]
	for _, l := range lists {
		seqs = append(seqs, scratch(l, memory))
	}
	seq := merge.Cursor(seqs...)
	is(t, "P2: Cursor", slices.Collect(seq), api.OK, "a 2 z, a 1 x, b 2 gone, b 1 yy, b 0 uuu, c 1 vvvv, d 1 ")
	var told []api.Entry
	for e := range seq {
		if told = append(told, e); len(told) == 4 {
			break
		}
		scribble(memory)
	}
	is(t, "P2: Cursor", told, api.OK, "a 2 z, a 1 x, b 2 gone, b 1 yy")
}

func TestP2ALongValueIsCopied(t *testing.T) {
	long := bytes.Repeat([]byte("x"), 1<<20)
	l := []api.Entry{{Key: "a", Seq: 1, Value: long}}
	for name, call := range map[string]func() []api.Entry{
		"Merge":  func() []api.Entry { all, _ := merge.Merge(l); return all },
		"Cursor": func() []api.Entry { return slices.Collect(merge.Cursor(slices.Values(l))) },
		"Seen":   func() []api.Entry { seen, _ := merge.Seen(l, 1); return seen },
		"Prune":  func() []api.Entry { left, _ := merge.Prune(l, 1, true); return left },
	} {
		told := call()
		scribble(told[0].Value)
		if bytes.Count(long, []byte("x")) != 1<<20 || len(told[0].Value) != 1<<20 {
			t.Errorf("P2: %s shares a long Value", name)
		}
	}
}

// heap tells how many bytes are kept.
func heap() int {
	var m runtime.MemStats
	runtime.GC()
	runtime.ReadMemStats(&m)
	return int(m.HeapAlloc)
}

// TestP2NoMoreThanAKeyIsKept hands in keys that are pieces of great texts.
func TestP2NoMoreThanAKeyIsKept(t *testing.T) {
	was := heap()
	var answers [][]api.Entry
	for i := range 100 {
		text := string(bytes.Repeat([]byte{byte(i)}, 1<<20))
		l := []api.Entry{value(text[:1], 1, "x")}
		all, _ := merge.Merge(l)
		seen, _ := merge.Seen(l, 1)
		left, _ := merge.Prune(l, 1, true)
		answers = append(answers, all, seen, left, slices.Collect(merge.Cursor(slices.Values(l))))
	}
	if more := heap() - was; more > 10<<20 {
		t.Errorf("P2: of %d keys of a byte %d bytes are kept", len(answers), more)
	}
	runtime.KeepAlive(answers)
}
