package disk_test

import (
	"maps"
	"math/rand"
	"slices"
	"strconv"
	"strings"
	"testing"

	"glacier/api"
	"glacier/disk"
)

// model goes by the words of the chapter, without care for time: its files are plain values, so that
// a refused call may work on a copy that is thrown away.
type model struct {
	size, born int
	files      map[string]content
}

type content struct {
	synced, rest string
}

func (m *model) used() int {
	n := 0
	for _, c := range m.files {
		n += len(c.synced) + len(c.rest)
	}
	return n
}

func (m *model) append(name string, parts [][]byte) api.Errno {
	if strings.Trim(name, "abcdefghijklmnopqrstuvwxyz0123456789-.") != "" || name == "" || len(name) > 64 {
		return api.ErrArg
	}
	c := m.files[name]
	for _, p := range parts {
		c.rest += string(p)
	}
	x := model{files: maps.Clone(m.files)}
	x.files[name] = c
	if x.used() > m.size {
		return api.ErrFull
	}
	m.files = x.files
	return api.OK
}

// each does one thing with a file of every name, or nothing if one is not there.
func (m *model) each(names []string, do func(name string)) api.Errno {
	for _, name := range names {
		if _, ok := m.files[name]; !ok {
			return api.ErrNone
		}
	}
	for _, name := range names {
		do(name)
	}
	return api.OK
}

func (m *model) sync(name string) {
	c := m.files[name]
	m.files[name] = content{c.synced + c.rest, ""}
}

func (m *model) rename(from, to string) api.Errno {
	c, ok := m.files[from]
	if !ok {
		return api.ErrNone
	}
	if !slices.Contains(modelNames(), to) {
		return api.ErrArg
	}
	delete(m.files, from)
	m.files[to] = c
	return api.OK
}

func (m *model) crash(picks []int) {
	for _, name := range slices.Sorted(maps.Keys(m.files)) {
		c := m.files[name]
		pick := 0
		if len(picks) > 0 {
			pick, picks = picks[0], picks[1:]
		}
		if pick < 0 {
			pick = 0
		}
		m.files[name] = content{c.synced + c.rest[:pick%(len(c.rest)+1)], ""}
	}
}

// show tells what show of the disk must tell.
func (m *model) show() string {
	l := []string{strconv.Itoa(m.used()) + "+" + strconv.Itoa(m.size-m.used()) + ", " + strconv.Itoa(m.born)}
	for _, name := range slices.Sorted(maps.Keys(m.files)) {
		l = append(l, name+" "+m.files[name].synced+"|"+m.files[name].rest)
	}
	return strings.Join(l, "; ")
}

// modelNames are those that a run draws from, beside some that are none.
func modelNames() []string { return []string{"a", "b", "a-1", "a.1", "0", "zz"} }

// run holds a disk and the model against each other, call by call.
type run struct {
	t    *testing.T
	draw *rand.Rand
	d    *disk.Disk
	m    model
}

func (r *run) name() string {
	if r.draw.Intn(12) == 0 {
		return wrongNames()[r.draw.Intn(len(wrongNames()))]
	}
	return modelNames()[r.draw.Intn(len(modelNames()))]
}

func (r *run) names() []string {
	l := make([]string, r.draw.Intn(4))
	for i := range l {
		l[i] = r.name()
	}
	return l
}

func (r *run) parts() [][]byte {
	l := make([][]byte, r.draw.Intn(4))
	for i := range l {
		l[i] = []byte("0123456789"[r.draw.Intn(10):])
	}
	return l
}

func (r *run) picks() []int {
	l := make([]int, r.draw.Intn(8))
	for i := range l {
		l[i] = r.draw.Intn(30) - 5
	}
	return l
}

// step does one call on both, and tells what they answered.
func (r *run) step() (api.Errno, api.Errno) {
	switch k := r.draw.Intn(40); {
	case k < 14:
		name, parts := r.name(), r.parts()
		return r.d.Append(name, parts...), r.m.append(name, parts)
	case k < 20:
		names := r.names()
		return r.d.Sync(names...), r.m.each(names, r.m.sync)
	case k < 26:
		from, to := r.name(), r.name()
		return r.d.Rename(from, to), r.m.rename(from, to)
	case k < 31:
		names := r.names()
		return r.d.Delete(names...), r.m.each(names, func(name string) { delete(r.m.files, name) })
	case k < 37:
		picks := r.picks()
		r.d.Crash(picks...)
		r.m.crash(picks)
	case k < 38:
		r.d.Lose()
		r.m.files, r.m.born = map[string]content{}, r.m.born+1
	default:
		r.d = r.d.Twin()
	}
	return api.OK, api.OK
}

func TestP202ToP207OfAnyCalls(t *testing.T) {
	for seed := range 60 {
		draw := rand.New(rand.NewSource(int64(seed)))
		size := 1 + draw.Intn(80)
		r := run{t, draw, made(t, size), model{size: size, files: map[string]content{}}}
		for i := range 400 {
			r.check(seed, i)
		}
	}
}

// check does a step: a refused one leaves the disk as it was, and one that is not makes of it what the model says.
func (r *run) check(seed, i int) {
	r.t.Helper()
	was := show(r.t, r.d)
	err, want := r.step()
	s := show(r.t, r.d)
	if err != want || s != r.m.show() {
		r.t.Fatalf("P202 to P206: seed %d, step %d: of %q: %v, %q; want %v, %q", seed, i, was, err, s, want, r.m.show())
	}
	if err != api.OK && s != was {
		r.t.Fatalf("P207: seed %d, step %d: %v, but %q is %q", seed, i, err, was, s)
	}
}

func TestP3TheSameCallsAnswerTheSame(t *testing.T) {
	tell := func() []string {
		var l []string
		draw := rand.New(rand.NewSource(9))
		r := run{t, draw, made(t, 40), model{size: 40, files: map[string]content{}}}
		for range 300 {
			err, _ := r.step()
			l = append(l, err.Error()+" "+show(t, r.d))
		}
		return l
	}
	if a, b := tell(), tell(); !slices.Equal(a, b) {
		t.Errorf("P3: two runs of the same calls tell %q and %q", a, b)
	}
}

func TestP1CallsOfAnyData(t *testing.T) {
	d := made(t, 5)
	for _, s := range append(wrongNames(), modelNames()...) {
		d.Append(s)
		d.Append(s, nil, []byte(s))
		d.Sync(s, s)
		d.Read(s)
		d.Unsynced(s)
		d.List(s, s)
		d.Crash(far()...)
		for _, to := range wrongNames() {
			d.Rename(s, to)
			d.Rename(to, s)
			d.Delete(to, s)
		}
	}
	if d.Used() < 0 || d.Used() > 5 {
		t.Errorf("P202: a disk of 5 bytes has %d", d.Used())
	}
}
