package disk

import "bytes"

// file is what stands under a name: the first synced bytes of data outlast a crash.
type file struct {
	data   []byte
	synced int
}

func (f *file) sync() { f.synced = len(f.data) }

func (f *file) unsynced() int { return len(f.data) - f.synced }

// tear keeps the first bytes of those that are not synced, as many as pick says, and tells how many are
// gone. What is left is copied, or the lost bytes would be kept behind it.
func (f *file) tear(pick int) int {
	n := f.unsynced()
	kept := max(pick, 0) % (n + 1)
	if kept < n {
		f.data = bytes.Clone(f.data[:f.synced+kept])
	}
	f.sync()
	return n - kept
}

func (f *file) twin() *file {
	return &file{data: bytes.Clone(f.data), synced: f.synced}
}
