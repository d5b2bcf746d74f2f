package gate

import (
	"slices"
	"strconv"

	"belfry/api"
	"belfry/audit"
	"belfry/disk"
	"belfry/wal"
)

// What the logs are called, and their files.
const (
	sharedLog = "adm"
	ownLog    = "t"
	fileEnd   = ".log"
)

// books are a gateway's logs: one of the operations that concern others, and one of each tenant's own, by the tenants' numbers.
type books struct {
	shared *book
	own    []*book
}

// book is a log, and the chain of its entries.
type book struct {
	log   *wal.Log
	chain *audit.Chain
}

// logs tells the names of the logs, in the order in which they are read.
func (s *setup) logs() []string {
	names := []string{sharedLog}
	for i := range s.tenants {
		names = append(names, ownLog+strconv.Itoa(i))
	}
	return names
}

// canOpen tells the error of the first log that can not be opened, or is not accepted.
func canOpen(d *disk.Disk, names []string) api.Errno {
	for _, name := range names {
		if _, _, e := openBook(d, name); e != api.OK {
			return e
		}
	}
	return api.OK
}

// openBook opens a log, and tells the entries that it has.
func openBook(d *disk.Disk, name string) (*book, []audit.Entry, api.Errno) {
	log, e := wal.Open(d, name)
	if e != api.OK {
		return nil, nil, e
	}
	b := &book{log: log}
	text := b.text()
	entries, e, _ := audit.Entries(text)
	if e != api.OK {
		return nil, nil, e
	}
	b.chain, _ = audit.Resume(text)
	return b, entries, api.OK
}

// noBook is a log without entries, into which none can be put.
func noBook() *book {
	return &book{chain: audit.New()}
}

// noBooks are as many of these as there are tenants, and one more.
func noBooks(tenants int) books {
	l := books{shared: noBook()}
	for range tenants {
		l.own = append(l.own, noBook())
	}
	return l
}

// text tells all that stands in a log.
func (b *book) text() []byte {
	return slices.Concat(slices.Collect(b.log.All())...)
}

// add puts an entry into the chain and into the log, or into neither.
func (b *book) add(e audit.Entry) api.Errno {
	chain := b.chain.Copy()
	record, why := chain.Add(e)
	if why != api.OK || b.log.Append(record) != api.OK {
		return api.ErrFull
	}
	b.chain = chain
	return api.OK
}

// sync makes all that stands in the logs safe.
func (l *books) sync() {
	l.shared.log.Sync()
	for _, b := range l.own {
		b.log.Sync()
	}
}
