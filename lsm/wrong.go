package lsm

// wrong is what is wrong with a part of a tree: it wraps that part's error.
type wrong struct {
	part string
	err  error
}

func (w *wrong) Error() string { return w.part + ": " + w.err.Error() }

func (w *wrong) Unwrap() error { return w.err }
