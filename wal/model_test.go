package wal_test

import (
	"encoding/binary"
	"fmt"
	"hash/crc32"
	"maps"
	"math/rand"
	"regexp"
	"slices"
	"strconv"
	"strings"
	"testing"

	"glacier/api"
	"glacier/disk"
	"glacier/wal"
)

// model goes by the words of the chapters, without care for time: what a disk holds, in plain values.
type model struct {
	size  int
	files map[string]content
}

type content struct {
	synced, rest string
}

func (m *model) used() int {
	n := 0
	for _, c := range m.files {
		n += len(c.synced) + len(c.rest)
	}
	return n
}

// write lays bytes behind those of a file, if there is room.
func (m *model) write(file, b string) api.Errno {
	if m.used()+len(b) > m.size {
		return api.ErrFull
	}
	c := m.files[file]
	m.files[file] = content{c.synced, c.rest + b}
	return api.OK
}

func (m *model) sync(file string) {
	c := m.files[file]
	m.files[file] = content{c.synced + c.rest, ""}
}

func (m *model) has(file string) bool {
	_, has := m.files[file]
	return has
}

// crash keeps what picks say, in the order of names.
func (m *model) crash(picks []int) {
	for i, name := range slices.Sorted(maps.Keys(m.files)) {
		c := m.files[name]
		m.files[name] = content{c.synced + c.rest[:picks[i]%(len(c.rest)+1)], ""}
	}
}

// show tells what show of the disk must tell.
func (m *model) show() string {
	var l []string
	for _, name := range slices.Sorted(maps.Keys(m.files)) {
		c := m.files[name]
		l = append(l, name+" "+words([]byte(c.synced))+"|"+words([]byte(c.rest)))
	}
	return strings.Join(l, "; ")
}

// log is what a model knows of an open log.
type log struct {
	m    *model
	name string
	last int
}

func (l *log) file(n int) string { return fmt.Sprintf("%s-%06d", l.name, n) }

// numbers tells those of the log's files, rising.
func (l *log) numbers() []int {
	form := regexp.MustCompile("^" + l.name + "-([0-9]{6})$")
	var all []int
	for name := range l.m.files {
		if found := form.FindStringSubmatch(name); found != nil {
			n, _ := strconv.Atoi(found[1])
			all = append(all, n)
		}
	}
	slices.Sort(all)
	return all
}

// slowFrame writes a frame, slowRead tells the texts of those at the front of bytes, and how many bytes they have.
func slowFrame(s string) string {
	b := binary.AppendUvarint(nil, uint64(len(s)))
	b = binary.LittleEndian.AppendUint32(b, crc32.Checksum([]byte(s), crc32.MakeTable(crc32.Castagnoli)))
	return string(b) + s
}

func slowRead(b string) ([]string, int) {
	var l []string
	at := 0
	for {
		size, n := binary.Uvarint([]byte(b[at:]))
		from := at + n + 4
		if n <= 0 || from > len(b) || size > uint64(len(b)-from) {
			return l, at
		}
		s := b[from : from+int(size)]
		if !strings.HasPrefix(b[at:], slowFrame(s)) {
			return l, at
		}
		l = append(l, s)
		at = from + int(size)
	}
}

// openModel does what P401 says.
func openModel(m *model, name string, first int) (*log, []string, api.Errno) {
	if !regexp.MustCompile("^[a-z0-9]{1,32}$").MatchString(name) || first < 0 || first > 999999 {
		return nil, nil, api.ErrArg
	}
	l := &log{m, name, first}
	var told []string
	for n := first; m.has(l.file(n)) && n <= 999999; n++ {
		l.last = n
		c := m.files[l.file(n)]
		b := c.synced + c.rest
		texts, whole := slowRead(b)
		told = append(told, texts...)
		if whole == len(b) {
			continue
		}
		delete(m.files, name+".tmp")
		if m.used()+whole > m.size {
			return nil, nil, api.ErrFull
		}
		m.files[l.file(n)] = content{b[:whole], ""}
		break
	}
	for _, n := range l.numbers() {
		if n > l.last {
			delete(m.files, l.file(n))
		}
	}
	for n := first; n <= l.last; n++ {
		m.sync(l.file(n)) // this makes segment first, too
	}
	return l, told, api.OK
}

func (l *log) append(texts []string) api.Errno {
	b := ""
	for _, s := range texts {
		b += slowFrame(s)
	}
	return l.m.write(l.file(l.last), b)
}

func (l *log) rotate() api.Errno {
	if l.last == 999999 {
		return api.ErrMany
	}
	l.m.sync(l.file(l.last))
	l.last++
	l.m.files[l.file(l.last)] = content{}
	return api.OK
}

func (l *log) truncate(below int) api.Errno {
	if below > l.last {
		return api.ErrArg
	}
	for _, n := range l.numbers() {
		if n < below {
			delete(l.m.files, l.file(n))
		}
	}
	return api.OK
}

// run holds logs on a disk, and those of a model, against each other, call by call.
type run struct {
	t     *testing.T
	draw  *rand.Rand
	base  int // numbers are drawn from about here on
	d     *disk.Disk
	m     *model
	logs  map[string]*wal.Log
	model map[string]*log
}

func newRun(t *testing.T, seed int64) *run {
	draw := rand.New(rand.NewSource(seed))
	size := 30 + draw.Intn(200)
	r := &run{
		t: t, draw: draw, base: []int{0, 8, 999996}[draw.Intn(3)], d: made(t, size), m: &model{size, map[string]content{}},
		logs: map[string]*wal.Log{}, model: map[string]*log{},
	}
	for _, name := range logNames() {
		r.open(name, r.base+draw.Intn(2))
	}
	return r
}

// logNames are those that a run opens, one of them the front of another one.
func logNames() []string { return []string{"log", "lo"} }

// open opens a log; if that is refused, the run goes on with the one that it has.
func (r *run) open(name string, first int) (string, string) {
	l, got, err := wal.Open(r.d, name, first)
	m, want, wantErr := openModel(r.m, name, first)
	if err == api.OK && wantErr == api.OK {
		r.logs[name], r.model[name] = l, m
	}
	if (l == nil) != (err != api.OK) {
		return "a log beside " + err.Error(), ""
	}
	return fmt.Sprintf("%q %v", texts(got), err), fmt.Sprintf("%q %v", want, wantErr)
}

func (r *run) number() int { return r.base - 2 + r.draw.Intn(7) }

func (r *run) texts() []string {
	l := []string(nil)
	for range r.draw.Intn(4) {
		l = append(l, "abcdefghij"[r.draw.Intn(11):])
	}
	return l
}

// others does what the program does not: files that are torn, changed, made, deleted, elder ones, a disk that fills.
func (r *run) others() {
	file := fmt.Sprintf("%s-%06d", logNames()[r.draw.Intn(2)], max(r.number(), 0))
	b := "\x00\x00\x00\x00\x01torn\x80"[r.draw.Intn(10):]
	switch k := r.draw.Intn(12); {
	case k < 1:
		file = []string{"log.tmp", "lo.tmp", "log-00001", "l-000001", "zz"}[r.draw.Intn(5)]
	case k < 4 && r.m.has(file):
		ok(r.t, "Delete", r.d.Delete(file))
		delete(r.m.files, file)
		return
	case k < 7:
		b = slowFrame("other")
	case k < 9:
		b = ""
	}
	if err, want := r.d.Append(file, []byte(b)), r.m.write(file, b); err != want {
		r.t.Fatalf("the disk's Append of %s: %v; want %v", file, err, want)
	}
	if k := r.draw.Intn(2); k == 0 && r.m.has(file) {
		ok(r.t, "Sync", r.d.Sync(file))
		r.m.sync(file)
	}
}

func (r *run) crash() {
	picks := make([]int, len(r.m.files))
	for i := range picks {
		picks[i] = r.draw.Intn(40)
	}
	r.d.Crash(picks...)
	r.m.crash(picks)
}

// step does a call on both, and tells what they answered.
func (r *run) step() (string, string) {
	name := logNames()[r.draw.Intn(2)]
	l, m := r.logs[name], r.model[name]
	switch k := r.draw.Intn(40); {
	case k < 12:
		texts := r.texts()
		return l.Append(payloads(texts...)...).Error(), m.append(texts).Error()
	case k < 17:
		m.m.sync(m.file(m.last))
		return l.Sync().Error(), "ok"
	case k < 22:
		return l.Rotate().Error(), m.rotate().Error()
	case k < 26:
		below := r.number()
		return l.Truncate(below).Error(), m.truncate(below).Error()
	case k < 33:
		return r.open(name, r.number())
	case k < 36:
		r.crash()
	case k < 38:
		r.others()
		return r.reopen()
	default:
		return r.open(append(wrongNames(), name)[r.draw.Intn(len(wrongNames())+1)], append(noNumbers(), r.base)[r.draw.Intn(len(noNumbers())+1)])
	}
	return "", ""
}

// reopen opens the logs from where they begin: others may have deleted what they append to. If there is no
// room for that, all is lost, and they begin anew.
func (r *run) reopen() (string, string) {
	for _, name := range logNames() {
		first := r.base
		if l := r.model[name].numbers(); len(l) > 0 {
			first = l[0]
		}
		got, want := r.open(name, first)
		if got != want {
			return got, want
		}
		if strings.HasSuffix(want, "full") {
			r.d.Lose()
			clear(r.m.files)
			return r.reopen()
		}
	}
	return "", ""
}

func (r *run) check(seed, i int) {
	r.t.Helper()
	was := show(r.t, r.d)
	got, want := r.step()
	if s := show(r.t, r.d); got != want || s != r.m.show() {
		r.t.Fatalf("P401 to P403: seed %d, step %d: of %s: %s: %s; want %s: %s", seed, i, was, got, s, want, r.m.show())
	}
	for _, name := range logNames() {
		l, m := r.logs[name], r.model[name]
		if l.Segment() != m.last || l.First() != m.numbers()[0] {
			r.t.Fatalf("P403: seed %d, step %d: %s: segments %d to %d; want %d to %d", seed, i, name, l.First(), l.Segment(), m.numbers()[0], m.last)
		}
	}
}

func TestP401ToP403OfAnyCalls(t *testing.T) {
	for seed := range 120 {
		r := newRun(t, int64(seed))
		for i := range 300 {
			r.check(seed, i)
		}
	}
}
