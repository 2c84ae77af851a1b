package manifest

import (
	"strconv"
	"strings"

	"glacier/api"
)

const (
	currentFile    = "current"
	besideFile     = "current.tmp"
	manifestPrefix = "manifest-"
	tablePrefix    = "t-"
	maxManifest    = 999999999 // a manifest's number, at most
	digits         = 6         // of a number in a file's name, at least
)

// File tells a table's file.
func File(n int) string { return numbered(tablePrefix, n) }

func manifestFile(n int) string { return numbered(manifestPrefix, n) }

func numbered(prefix string, n int) string {
	s := strconv.Itoa(n)
	return prefix + strings.Repeat("0", max(digits-len(s), 0)) + s
}

// manifestOf tells which manifest a file is; false, if it is none: more noughts, or fewer, make another file.
func manifestOf(file string) (int, bool) {
	n, is := numberIn(strings.TrimPrefix(file, manifestPrefix))
	if !is || manifestFile(n) != file {
		return 0, false
	}
	return n, true
}

// saidBy tells which manifest's number the bytes of the file current say; false, if they say none.
func saidBy(b []byte) (int, bool) {
	n, is := numberIn(string(b))
	if !is || strconv.Itoa(n) != string(b) {
		return 0, false
	}
	return n, true
}

// numberIn tells a manifest's number, however many noughts are ahead of it.
func numberIn(s string) (int, bool) {
	n, err := strconv.Atoi(s)
	return n, err == nil && 0 <= n && n <= maxManifest
}

func (s *Set) file() string { return manifestFile(s.number) }

// current tells the number that the file current says. ErrNone: there is no such file; ErrForm: it says none.
func (s *Set) current() (int, error) {
	b, none := s.Read(currentFile)
	if none != api.OK {
		return 0, &wrong{currentFile, none}
	}
	n, is := saidBy(b)
	if !is {
		return 0, &wrong{currentFile, api.ErrForm}
	}
	return n, nil
}

// lay makes a manifest with these bytes, and lets it be the set's one. If the disk has no room for that, the set
// is as it was, and what was begun is gone.
func (s *Set) lay(n int, b []byte) api.Errno {
	file := manifestFile(n)
	if err := s.write(file, b); err != api.OK {
		return err
	}
	if err := s.point(n); err != api.OK {
		s.Delete(file)
		return err
	}
	s.number = n
	return api.OK
}

// point lets the file current say a number. Till it is renamed, the elder one says what it said.
func (s *Set) point(n int) api.Errno {
	if err := s.write(besideFile, []byte(strconv.Itoa(n))); err != api.OK {
		return err
	}
	return s.Rename(besideFile, currentFile)
}

// write lays a file anew, synced. Its bytes are new ones: those of an elder file, which a crash has left, are
// deleted with it.
func (s *Set) write(file string, b []byte) api.Errno {
	// That there is no elder one is no fault.
	s.Delete(file)
	if err := s.Append(file, b); err != api.OK {
		return err
	}
	return s.Sync(file)
}

// dropOthers deletes the manifests of other numbers than the set's.
func (s *Set) dropOthers() {
	for _, file := range s.List(manifestPrefix) {
		if n, is := manifestOf(file); is && n != s.number {
			s.Delete(file)
		}
	}
}

// wrong is what is wrong with a file: it wraps the number.
type wrong struct {
	file string
	err  api.Errno
}

func (w *wrong) Error() string { return w.file + ": " + w.err.Error() }

func (w *wrong) Unwrap() error { return w.err }

// asError tells a number as an error. Not OK: as an error that would be one.
func asError(e api.Errno) error {
	if e == api.OK {
		return nil
	}
	return e
}
