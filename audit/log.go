package audit

import (
	"bytes"

	"belfry/api"
	"belfry/sha"
	"belfry/wire"
)

const maxEntry = 2 * api.MaxText

// reading is what was read of a log: its entries, and the chain of them.
type reading struct {
	parts []part
	chain *Chain
}

// cut cuts a log into its entries. It tells those ahead of the first fault, what that is, and the place at which its entry begins; the log's length, if there is none.
func cut(log []byte, sum hash) (reading, api.Errno, int) {
	r := reading{chain: New()}
	at := 0
	var why api.Errno
entries:
	for {
		p, next, e := entryAt(log, at)
		switch {
		case at == len(log):
			break entries
		case e != api.OK:
			why = e
			goto fault
		case p.ahead != r.chain.subs[p.Tenant]:
			why = api.ErrChain
			goto fault
		}
		r.chain.take(p.Tenant, p.bytes, sum)
		r.parts = append(r.parts, p)
		at = next
	}
	return r, api.OK, at
fault:
	return r, why, at
}

// entryAt reads the entry whose length begins at a place, and tells the place behind it.
func entryAt(log []byte, at int) (part, int, api.Errno) {
	n, begin, e := wire.Get(log, at)
	switch {
	case e == api.ErrShort:
		return part{}, 0, api.ErrShort
	case e != api.OK:
		return part{}, 0, api.ErrForm
	// Compared without a sign: a length may be above every int.
	case n > uint64(len(log)-begin):
		return part{}, 0, api.ErrShort
	case n > maxEntry || !bytes.Equal(log[at:begin], wire.Put(nil, n)):
		return part{}, 0, api.ErrForm
	}
	end := begin + int(n)
	p, ok := read(log[begin:end])
	if !ok {
		return part{}, 0, api.ErrForm
	}
	return p, end, api.OK
}

// Entries tells a log's entries; or the first fault, and the place at which its entry begins.
func Entries(log []byte) ([]Entry, api.Errno, int) {
	r, e, at := cut(log, sha.Sum)
	if e != api.OK {
		return nil, e, at
	}
	var l []Entry
	for _, p := range r.parts {
		l = append(l, p.Entry)
	}
	return l, api.OK, 0
}

// Verify tells whether a log is that of a head; if not, why, and where.
func Verify(log []byte, head [32]byte) (api.Errno, int) {
	_, e, at := verify(log, head, sha.Sum)
	return e, at
}

// verify is Verify, and tells what was read.
func verify(log []byte, head digest, sum hash) (reading, api.Errno, int) {
	r, e, at := cut(log, sum)
	switch {
	case e != api.OK:
		return r, e, at
	case sum(headText(r.chain.count, r.chain.link)) != head:
		return r, api.ErrSum, len(log)
	}
	return r, api.OK, 0
}

// Of tells the bytes of a tenant's entries in a log, in order.
func Of(log []byte, tenant string) ([][]byte, api.Errno) {
	r, e, _ := cut(log, sha.Sum)
	if e != api.OK {
		return nil, e
	}
	var l [][]byte
	for _, p := range r.parts {
		if p.Tenant == tenant {
			l = append(l, bytes.Clone(p.bytes))
		}
	}
	return l, api.OK
}

// VerifySub tells whether the bytes of entries are those of a tenant whose digest is this one.
func VerifySub(l [][]byte, tenant string, sub [32]byte) api.Errno {
	var ahead digest
	for _, b := range l {
		p, ok := read(b)
		switch {
		case !ok || p.Tenant != tenant:
			return api.ErrForm
		case p.ahead != ahead:
			return api.ErrChain
		}
		ahead = sha.Sum(b)
	}
	if sub != ahead {
		return api.ErrSum
	}
	return api.OK
}
