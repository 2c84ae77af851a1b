package manifest_test

import (
	"errors"
	"fmt"
	"maps"
	"math/rand"
	"regexp"
	"slices"
	"strconv"
	"strings"
	"testing"

	"glacier/api"
	"glacier/codec"
	"glacier/disk"
	"glacier/manifest"
)

// model goes by the words of the chapters, without care for time: what a disk holds, in plain values.
type model struct {
	size  int
	files map[string]content
}

type content struct {
	synced, rest string
}

func (m *model) write(file, b string) api.Errno {
	used := len(b)
	for _, c := range m.files {
		used += len(c.synced) + len(c.rest)
	}
	if used > m.size {
		return api.ErrFull
	}
	c := m.files[file]
	m.files[file] = content{c.synced, c.rest + b}
	return api.OK
}

func (m *model) sync(file string) {
	c := m.files[file]
	m.files[file] = content{c.synced + c.rest, ""}
}

// crash keeps what picks say, in the order of names.
func (m *model) crash(picks []int) {
	for i, name := range slices.Sorted(maps.Keys(m.files)) {
		c := m.files[name]
		m.files[name] = content{c.synced + c.rest[:picks[i]%(len(c.rest)+1)], ""}
	}
}

func (m *model) contents() map[string]string {
	l := map[string]string{}
	for name, c := range m.files {
		l[name] = c.synced + "|" + c.rest
	}
	return l
}

// set is what a model knows of an open set.
type set struct {
	m       *model
	version api.Version
	number  int
}

func (s *set) file() string { return fmt.Sprintf("manifest-%06d", s.number) }

// openModel does what P803 says.
func openModel(m *model) (*set, api.Errno) {
	s := &set{m: m}
	c, has := m.files["current"]
	if !has {
		if err := s.begin(0, ""); err != api.OK {
			return nil, err
		}
		s.dropOthers()
		return s, api.OK
	}
	said := c.synced + c.rest
	if !regexp.MustCompile("^(0|[1-9][0-9]{0,8})$").MatchString(said) {
		return nil, api.ErrForm
	}
	s.number, _ = strconv.Atoi(said)
	c, has = m.files[s.file()]
	if !has {
		return nil, api.ErrForm
	}
	if s.read(c.synced + c.rest) {
		m.sync("current")
		m.sync(s.file())
	} else if err := s.rotate(); err != api.OK {
		return nil, err
	}
	s.dropOthers()
	return s, api.OK
}

// read makes the version of edits, up to a place that cannot be read or applied; false, if there is one.
func (s *set) read(b string) bool {
	for b != "" {
		payload, n, err := codec.ReadFrame([]byte(b))
		if err != api.OK {
			return false
		}
		e, err := decode(string(payload))
		if err != api.OK {
			return false
		}
		v, err := apply(s.version, e)
		if err != api.OK {
			return false
		}
		s.version, b = v, b[n:]
	}
	return true
}

// begin writes a manifest of a number, and lets it be the current one.
func (s *set) begin(number int, b string) api.Errno {
	next := fmt.Sprintf("manifest-%06d", number)
	delete(s.m.files, next)
	if err := s.m.write(next, b); err != api.OK {
		return err
	}
	s.m.sync(next)
	delete(s.m.files, "current.tmp")
	if err := s.m.write("current.tmp", strconv.Itoa(number)); err != api.OK {
		delete(s.m.files, next)
		return err
	}
	delete(s.m.files, "current.tmp")
	s.m.files["current"] = content{strconv.Itoa(number), ""}
	s.number = number
	return api.OK
}

func (s *set) dropOthers() {
	form := regexp.MustCompile("^manifest-([0-9]{6}|[1-9][0-9]{6,8})$")
	for name := range s.m.files {
		if form.MatchString(name) && name != s.file() {
			delete(s.m.files, name)
		}
	}
}

func (s *set) commit(e api.Edit) api.Errno {
	v, err := apply(s.version, e)
	if err != api.OK {
		return err
	}
	if err := s.m.write(s.file(), frames(e)); err != api.OK {
		return err
	}
	s.m.sync(s.file())
	s.version = v
	return api.OK
}

func (s *set) rotate() api.Errno {
	if s.number == 999999999 {
		return api.ErrMany
	}
	old := s.file()
	if err := s.begin(s.number+1, frames(whole(s.version))); err != api.OK {
		return err
	}
	delete(s.m.files, old)
	return api.OK
}

func (s *set) orphans() []string {
	var l []string
	for _, name := range slices.Sorted(maps.Keys(s.m.files)) {
		of := func(t api.Table) bool { return name == fmt.Sprintf("t-%06d", t.File) }
		if strings.HasPrefix(name, "t-") && !slices.ContainsFunc(s.version.Tables, of) {
			l = append(l, name)
		}
	}
	return l
}

// run holds sets on a disk, and those of a model, against each other, call by call.
type run struct {
	draws
	t     *testing.T
	base  int
	d     *disk.Disk
	m     *model
	set   *manifest.Set
	model *set
	told  map[string]int
}

func newRun(t *testing.T, seed int64) *run {
	d := draws{rand.New(rand.NewSource(seed))}
	size := 60 + d.Intn(500)
	r := &run{draws: d, t: t, base: []int{0, 8, 99998, 999996, 999999990}[d.Intn(5)], d: made(t, size), m: &model{size, map[string]content{}}, told: map[string]int{}}
	r.others("current", strconv.Itoa(r.base))
	r.others(fmt.Sprintf("manifest-%06d", r.base), "")
	r.open()
	return r
}

// others lays bytes that the program does not lay, and syncs them or not.
func (r *run) others(file, b string) {
	if err, want := r.d.Append(file, []byte(b)), r.m.write(file, b); err != want {
		r.t.Fatalf("the disk's Append of %s: %v; want %v", file, err, want)
	}
	if _, has := r.m.files[file]; has && r.Intn(2) == 0 {
		ok(r.t, "Sync", r.d.Sync(file))
		r.m.sync(file)
	}
}

// remove takes a file away, if there is one.
func (r *run) remove(file string) {
	if _, has := r.m.files[file]; has {
		ok(r.t, "Delete", r.d.Delete(file))
		delete(r.m.files, file)
	}
}

// open opens the set; if that is refused, all is lost, and the run goes on with a new one.
func (r *run) open() (string, string) {
	s, err := manifest.Open(r.d)
	m, want := openModel(r.m)
	got := "ok"
	if err != nil {
		got = err.Error()
	}
	if want != api.OK {
		if s != nil || !errors.Is(err, want) {
			return got, want.Error()
		}
		r.told["Open "+want.Error()]++
		if a, b := contents(r.t, r.d), r.m.contents(); !maps.Equal(a, b) {
			return fmt.Sprintf("%q", a), fmt.Sprintf("%q", b)
		}
		r.d.Lose()
		clear(r.m.files)
		return r.open()
	}
	if err == nil {
		r.set, r.model = s, m
	}
	return got, "ok"
}

// disturb does what crashes do not: files that are changed, made and deleted by others, elder ones, a disk that fills.
func (r *run) disturb() {
	near := fmt.Sprintf("manifest-%06d", max(r.model.number-2+r.Intn(5), 0))
	torn := []string{"\x00\x00\x00\x00\x00", "torn", "\x80", frame(""), frames(r.edit(r.model.version)), frames(r.edit(r.model.version))[:3]}[r.Intn(6)]
	switch r.Intn(12) {
	case 0, 1:
		r.others(r.model.file(), torn)
	case 2, 3:
		r.others(near, torn)
	case 4:
		r.others("current.tmp", "1234567890"[r.Intn(10):])
	case 5:
		r.others([]string{"manifest-00001", "manifest-0000001", "manifest-1000000000", "manifest-", "t-", "t-1", "zz"}[r.Intn(7)], "x")
	case 6, 7:
		r.others(fmt.Sprintf("t-%06d", r.Intn(24)), "x")
	case 8:
		r.others("zz", strings.Repeat("z", r.Intn(60)))
	case 9:
		r.remove("zz")
	case 10:
		r.remove([]string{"current.tmp", "zz", near}[r.Intn(3)])
	case 11:
		if r.Intn(20) == 0 {
			r.remove([]string{"current", r.model.file()}[r.Intn(2)])
		} else if r.Intn(20) == 0 {
			r.others("current", "0")
		}
	}
}

func (r *run) crash() {
	picks := make([]int, len(r.m.files))
	for i := range picks {
		picks[i] = r.Intn(40)
	}
	r.d.Crash(picks...)
	r.m.crash(picks)
}

// step does a call on both, and tells what they answered.
func (r *run) step() (string, string) {
	switch k := r.Intn(40); {
	case k < 22:
		e := r.edit(r.model.version)
		if r.Intn(3) > 0 {
			e.Next, e.Wal = 0, 0
		}
		got, want := r.set.Commit(e).Error(), r.model.commit(e).Error()
		r.told["Commit "+want]++
		return got, want
	case k < 25:
		got, want := r.set.Rotate().Error(), r.model.rotate().Error()
		r.told["Rotate "+want]++
		return got, want
	case k < 28:
		return r.open()
	case k < 32:
		r.crash()
	}
	r.disturb()
	return r.open()
}

func (r *run) check(seed, i int) {
	r.t.Helper()
	was := show(r.t, r.d)
	got, want := r.step()
	if a, b := contents(r.t, r.d), r.m.contents(); got != want || !maps.Equal(a, b) {
		r.t.Fatalf("P803, P804: seed %d, step %d: of %s: %s: %q; want %s: %q", seed, i, was, got, a, want, b)
	}
	tell(r.t, fmt.Sprintf("P803, P804: seed %d, step %d", seed, i), r.set, r.model.version, r.model.number)
	if l, want := r.set.Orphans(), r.model.orphans(); !slices.Equal(l, want) {
		r.t.Fatalf("P804: seed %d, step %d: orphans %q; want %q", seed, i, l, want)
	}
}

func TestP803AndP804OfAnyCalls(t *testing.T) {
	told := map[string]int{}
	for seed := range 150 {
		r := newRun(t, int64(seed))
		for i := range 200 {
			r.check(seed, i)
		}
		for what, n := range r.told {
			told[what] += n
		}
	}
	for _, what := range []string{"Open form", "Open full", "Open many", "Commit ok", "Commit none", "Commit arg", "Commit order", "Commit full", "Rotate ok", "Rotate many", "Rotate full"} {
		if told[what] < 10 {
			t.Errorf("P803, P804: %s was told only %d times of any calls: %v", what, told[what], told)
		}
	}
}
