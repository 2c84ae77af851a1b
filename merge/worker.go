package merge

import (
	"iter"
	"sync"
)

// worker goes over a sequence in a goroutine of its own, and stands still between two items: so one sequence
// can be gone on with between two items of another. It goes only while somebody waits for it, so that no two
// sequences, which may share things, are gone over at one time.
type worker[T any] struct {
	ask   chan struct{} // one for each item; closed, when no more are wanted
	told  chan T        // closed at the sequence's end
	fault any           // what the sequence has panicked with
	join  sync.WaitGroup
}

// begin tells a worker that has asked the sequence for nothing yet. Each item is copied at once: its memory may
// be written over as soon as any sequence is gone on with.
func begin[T any](seq iter.Seq[T], copied func(T) T) *worker[T] {
	w := &worker[T]{ask: make(chan struct{}), told: make(chan T)}
	w.join.Go(func() { w.run(seq, copied) })
	return w
}

func (w *worker[T]) run(seq iter.Seq[T], copied func(T) T) {
	defer close(w.told)
	defer func() { w.fault = recover() }()
	if _, more := <-w.ask; !more {
		return
	}
	for item := range seq {
		w.told <- copied(item)
		if _, more := <-w.ask; !more {
			return
		}
	}
}

// next tells the next item; false at the end, behind which it is not to be called.
func (w *worker[T]) next() (T, bool) {
	w.ask <- struct{}{}
	item, is := <-w.told
	if !is {
		w.raise()
	}
	return item, is
}

// stop leaves the sequence, and waits for the goroutine's end.
func (w *worker[T]) stop() {
	close(w.ask)
	w.join.Wait()
	w.raise()
}

// raise goes on with a panic of the sequence where its caller can recover it, as if he had ranged over it
// himself: in the goroutine it would end the program.
func (w *worker[T]) raise() {
	if fault := w.fault; fault != nil {
		w.fault = nil
		panic(fault)
	}
}
