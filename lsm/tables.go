package lsm

import (
	"glacier/api"
	"glacier/manifest"
	"glacier/sst"
)

// greatestBlock is how great blocks are asked to be, at most. A block grows beyond that by the entry with which it ends,
// which may have half of MaxValue, and some more; but a block of more than MaxValue bytes could not be read back.
const greatestBlock = api.MaxValue / 4

// opened opens the files of tables.
func opened(set *manifest.Set, tables []api.Table) (map[int]*sst.Table, error) {
	all := map[int]*sst.Table{}
	for _, place := range tables {
		file := manifest.File(place.File)
		b, none := set.Read(file)
		t, err := sst.Open(b)
		if none != api.OK || err != nil {
			return nil, &wrong{file, api.ErrForm}
		}
		all[place.File] = t
	}
	return all, nil
}

// change lays a table for each list of entries, and commits an edit that adds them at a level. At an error all is as it
// was.
func (t *DB) change(e api.Edit, level int, lists ...[]api.Entry) api.Errno {
	err := t.layAll(&e, level, lists)
	if err == api.OK {
		err = t.commit(e)
	}
	if err != api.OK {
		for _, table := range e.Add {
			t.remove(table.File)
		}
	}
	return err
}

// layAll lays tables, and adds each to an edit as soon as it is laid.
func (t *DB) layAll(e *api.Edit, level int, lists [][]api.Entry) api.Errno {
	n := t.numbers()
	for _, l := range lists {
		file := n.take()
		size, err := t.lay(file, l)
		if err != api.OK {
			return err
		}
		e.Add = append(e.Add, api.Table{File: file, Level: level, First: l[0].Key, Last: l[len(l)-1].Key, Size: size})
		e.Next = n.next
	}
	return api.OK
}

// lay lays a table's file, synced, and opens it. Told is how many bytes it has.
func (t *DB) lay(number int, l []api.Entry) (int, api.Errno) {
	b, err := sst.Build(l, min(t.options.Block, greatestBlock))
	if err != api.OK {
		return 0, err
	}
	table, wrong := sst.Open(b)
	if wrong != nil {
		return 0, api.ErrForm
	}
	file := manifest.File(number)
	if err := t.Append(file, b); err != api.OK {
		return 0, err
	}
	if err := t.Sync(file); err != api.OK {
		return 0, err
	}
	t.tables[number] = table
	return len(b), api.OK
}

func (t *DB) remove(number int) {
	delete(t.tables, number)
	t.Delete(manifest.File(number))
}

// commit commits an edit whose tables are opened.
func (t *DB) commit(e api.Edit) api.Errno {
	if err := t.Commit(e); err != api.OK {
		return err
	}
	v := t.Version()
	t.arrange(v)
	t.renew(v)
	return api.OK
}

const (
	manifests     = "manifest-"
	shortManifest = 1 << 12 // bytes that a manifest may have, however little it says
)

// renew lets the manifest begin anew, if most of what it says is of the past: it has each edit that there was, and
// would fill the disk in time. If there is no room for that now, it goes on as it is.
func (t *DB) renew(v api.Version) {
	whole := len(manifest.Encode(api.Edit{Add: v.Tables, Seq: v.Seq, Next: v.Next, Wal: v.Wal}))
	has := 0
	for _, file := range t.List(manifests) {
		b, _ := t.Read(file)
		has += len(b)
	}
	// An edit of more than MaxValue bytes would not be read back.
	if has > shortManifest && has/4 > whole && whole <= api.MaxValue {
		t.Rotate()
	}
}

// numbers gives out those of new tables' files.
type numbers struct {
	next  int
	taken map[string]struct{}
}

// numbers begins behind all that are, or were, a table's. There may be such files all the same, which a crash has left:
// nothing is written behind their bytes, they are for Sweep.
func (t *DB) numbers() *numbers {
	v := t.Version()
	n := &numbers{next: v.Next, taken: map[string]struct{}{}}
	for _, table := range v.Tables {
		n.next = max(n.next, table.File+1)
	}
	for _, file := range t.List() {
		n.taken[file] = struct{}{}
	}
	return n
}

func (n *numbers) take() int {
	for {
		number := n.next
		n.next++
		if _, is := n.taken[manifest.File(number)]; !is {
			return number
		}
	}
}
