package wal

import (
	"bytes"
	"iter"
	"slices"

	"belfry/api"
	"belfry/wire"
)

// sumSize is how many bytes the sum at a frame's end has.
const sumSize = 4

// numbered is a thing with its number. Numbers begin with 1, so the zero one is none.
type numbered[T any] struct {
	number uint64
	thing  T
}

// Frame tells a record with its number as it stands in a log.
func Frame(seq uint64, b []byte) ([]byte, api.Errno) {
	switch {
	case seq == 0:
		return nil, api.ErrArg
	case len(b) > api.MaxFrame:
		return nil, api.ErrSize
	}
	head := wire.Put(wire.Put(nil, seq), uint64(len(b)))
	return putSum(slices.Concat(head, b)), api.OK
}

// putSum puts the sum of bytes behind them, the lowest byte first.
func putSum(b []byte) []byte {
	sum := wire.Sum(b)
	for range sumSize {
		b = append(b, byte(sum))
		sum >>= 8
	}
	return b
}

// Frames tells the records of the good frames, the last one's number, and how many bytes the frames have.
func Frames(b []byte) ([][]byte, uint64, int) {
	var records [][]byte
	last, size := uint64(0), 0
	for f, end := range good(b) {
		records = append(records, f.thing)
		last, size = f.number, end
	}
	return records, last, size
}

// good goes through the records of the good frames, each with the place behind its frame.
func good(b []byte) iter.Seq2[numbered[[]byte], int] {
	return func(yield func(numbered[[]byte], int) bool) {
		last, at := uint64(0), 0
		for {
			f, end, ok := frameAt(b, at)
			// Behind the greatest number there is none: last+1 is 0 then, which no frame has.
			if !ok || at > 0 && f.number != last+1 {
				return
			}
			if !yield(f, end) {
				return
			}
			last, at = f.number, end
		}
	}
}

// frameAt tells the record of the frame that begins at a place, in new memory, and the place behind the frame; false, if none stands there whole. A frame is right just if it would be written so: that holds its sum, its varints and its length to the rules at once.
func frameAt(b []byte, at int) (numbered[[]byte], int, bool) {
	number, next, e := wire.Get(b, at)
	if e != api.OK {
		return numbered[[]byte]{}, 0, false
	}
	size, begin, e := wire.Get(b, next)
	if e != api.OK || size > uint64(len(b)-begin) {
		return numbered[[]byte]{}, 0, false
	}
	record := b[begin : begin+int(size)]
	frame, e := Frame(number, record)
	if e != api.OK || !bytes.HasPrefix(b[at:], frame) {
		return numbered[[]byte]{}, 0, false
	}
	return numbered[[]byte]{number, bytes.Clone(record)}, at + len(frame), true
}
