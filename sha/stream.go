package sha

import (
	"iter"
	"slices"

	"belfry/api"
)

// Stream is bytes that come in pieces. The zero Stream has none, as New's.
type Stream struct {
	now  chain
	past [][32]byte // the states behind whole blocks: Blocks tells them, though their bytes are gone
	rest [blockSize]byte
	left int // how many bytes of rest wait for a whole block
}

// New tells a stream without bytes.
func New() *Stream {
	return &Stream{now: begin()}
}

// Write puts b behind the other bytes.
func (s *Stream) Write(b []byte) api.Errno {
	if s == nil {
		return api.ErrNil
	}
	for len(b) > 0 {
		n := copy(s.rest[s.left:], b)
		b = b[n:]
		s.left += n
		if s.left == blockSize {
			s.close()
		}
	}
	return api.OK
}

// close takes the whole block in that has come together.
func (s *Stream) close() {
	s.now = s.chain().after(s.rest)
	s.past = append(s.past, s.now.bytes())
	s.left = 0
}

// chain is where the stream is: a stream that was not made by New is at the beginning.
func (s *Stream) chain() chain {
	if s.now == (chain{}) {
		return begin()
	}
	return s.now
}

// Sum tells the digest of all bytes so far; all 0 of nil.
func (s *Stream) Sum() [32]byte {
	if s == nil {
		return [32]byte{}
	}
	return s.chain().end(s.rest[:s.left]).bytes()
}

// Len tells how many bytes there are so far.
func (s *Stream) Len() int64 {
	if s == nil {
		return 0
	}
	return s.now.blocks*blockSize + int64(s.left)
}

// Reset takes all bytes away.
func (s *Stream) Reset() {
	if s != nil {
		*s = *New()
	}
}

// Copy tells another stream as this one is; nil of nil.
func (s *Stream) Copy() *Stream {
	if s == nil {
		return nil
	}
	other := *s
	other.past = slices.Clone(s.past)
	return &other
}

// Blocks goes through the states behind the whole blocks that there are when it is called. The list of them only grows, and Reset begins a new one, so what was there is not written over.
func (s *Stream) Blocks() iter.Seq[[32]byte] {
	if s == nil {
		return slices.Values[[][32]byte](nil)
	}
	return slices.Values(s.past)
}
