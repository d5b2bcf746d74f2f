package audit

import (
	"bytes"
	"slices"

	"belfry/api"
	"belfry/names"
	"belfry/wire"
)

// Entry is what was done: by whom, when, and with which bytes.
type Entry struct {
	Tenant string
	At     int64
	What   string
	Body   []byte
}

const maxWhat = 32

// The fields of an entry.
const (
	fieldTenant = 1
	fieldAt     = 2
	fieldWhat   = 3
	fieldBody   = 4
	fieldAhead  = 5
	fields      = 5
)

// right tells why an entry can not be.
func right(e Entry) api.Errno {
	switch {
	case e.Tenant != "" && !names.Right(e.Tenant):
		return api.ErrIdent
	case e.At < 0 || e.At > api.MaxTime:
		return api.ErrArg
	case !rightWhat(e.What):
		return api.ErrForm
	case len(e.Body) > api.MaxText:
		return api.ErrSize
	}
	return api.OK
}

func rightWhat(s string) bool {
	if s == "" || len(s) > maxWhat {
		return false
	}
	for i := range len(s) {
		if s[i] < '!' || s[i] > '~' {
			return false
		}
	}
	return true
}

// write tells the bytes of an entry that can be, with the digest of its tenant's entry ahead.
func write(e Entry, ahead digest) []byte {
	// No such entry is too long for a message.
	b, _ := wire.Write(
		wire.Field{Num: fieldTenant, Type: wire.Bytes, B: []byte(e.Tenant)},
		wire.Field{Num: fieldAt, Type: wire.Varint, N: uint64(e.At)},
		wire.Field{Num: fieldWhat, Type: wire.Bytes, B: []byte(e.What)},
		wire.Field{Num: fieldBody, Type: wire.Bytes, B: e.Body},
		wire.Field{Num: fieldAhead, Type: wire.Bytes, B: ahead[:]},
	)
	return b
}

// withLength tells an entry's bytes as they stand in a log.
func withLength(b []byte) []byte {
	return append(wire.Put(nil, uint64(len(b))), b...)
}

// part is an entry as it was read.
type part struct {
	Entry
	ahead digest
	bytes []byte // the memory of the log
}

// read reads an entry's bytes, and tells whether they are those of one that can be.
func read(b []byte) (part, bool) {
	l, e, _ := wire.Read(b)
	if e != api.OK || len(l) != fields {
		return part{}, false
	}
	p := part{bytes: b}
	p.Tenant = string(l[0].B)
	p.At = int64(l[1].N)
	p.What = string(l[2].B)
	p.Body = l[3].B
	copy(p.ahead[:], l[4].B)
	// Whatever the fields were, those of the entry that was made of them are the same just if they were as they are written.
	if right(p.Entry) != api.OK || !bytes.Equal(write(p.Entry, p.ahead), b) {
		return part{}, false
	}
	return p, true
}

// linkText is the text whose digest is the link behind an entry.
func linkText(link digest, b []byte) []byte {
	return slices.Concat(link[:], b)
}

// headText is the text whose digest is the head of some entries.
func headText(count int64, link digest) []byte {
	var b []byte
	for shift := 56; shift >= 0; shift -= 8 {
		b = append(b, byte(count>>shift))
	}
	return append(b, link[:]...)
}
