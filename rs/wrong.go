package rs

import (
	"slices"

	"glacier/api"
)

// told tells what work tells, or the error that it panicked with, and nothing beside it. What is wrong with
// shards is found deep inside: so those between need not hand it on.
func told[T any](work func() T) (answer T, err api.Errno) {
	defer func() {
		switch p := recover().(type) {
		case nil:
		case api.Errno:
			err = p
		default: // not of the shards, but a fault of the program, which is not to pass for one of theirs
			panic(p)
		}
	}()
	return work(), api.OK
}

func refuseIf(is bool, err api.Errno) {
	if is {
		panic(err)
	}
}

// sure tells an answer, whose error is told by the call that all of this is done for.
func sure[T any](answer T, err api.Errno) T {
	refuseIf(err != api.OK, err)
	return answer
}

func isMissing(shard []byte) bool { return len(shard) == 0 }

// even refuses shards that are not n, or not equally long where they are there, and tells how long they are;
// of none it is 0.
func even(n int, shards [][]byte) int {
	refuseIf(len(shards) != n, api.ErrArg)
	length := 0
	for _, s := range shards {
		refuseIf(!isMissing(s) && length > 0 && len(s) != length, api.ErrArg)
		length = max(length, len(s))
	}
	return length
}

// refuseGaps refuses shards that are not n, not equally long, or not all there.
func refuseGaps(n int, shards [][]byte) {
	even(n, shards)
	refuseIf(slices.ContainsFunc(shards, isMissing), api.ErrArg)
}
