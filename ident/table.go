package ident

import (
	"iter"
	"slices"

	"belfry/api"
)

// MaxSessions is how many sessions there can be at a time.
const MaxSessions = 64

// Table keeps sessions.
type Table struct {
	last     int64     // the number of the one that was opened last
	sessions []session // in order of their numbers
}

type session struct {
	number int64
	who    api.Ident
	until  int64
}

// over: a session is there at the times below its end.
func (s session) over(now int64) bool {
	return now >= s.until
}

// New tells a table without sessions.
func New() *Table {
	return &Table{}
}

// Open opens a session of a peer, from now on for a span, and tells its number.
func (t *Table) Open(peer string, now, span int64) (int64, api.Errno) {
	if t == nil {
		return 0, api.ErrNil
	}
	who, e, _ := Parse(peer)
	switch {
	case e != api.OK:
		return 0, e
	case !rightSpan(now, span):
		return 0, api.ErrArg
	case len(t.sessions) == MaxSessions:
		return 0, api.ErrFull
	}
	t.last++
	t.sessions = append(t.sessions, session{number: t.last, who: who, until: end(now, span)})
	return t.last, api.OK
}

// rightSpan tells whether a session can begin, or go on, at a time and for a span.
func rightSpan(now, span int64) bool {
	return now >= 0 && now <= api.MaxTime && span >= 1 && span <= api.MaxTime
}

// end is the time at which a session is over; no time is above MaxTime.
func end(now, span int64) int64 {
	return min(now+span, api.MaxTime)
}

// Who tells whose a session is.
func (t *Table) Who(id, now int64) (api.Ident, api.Errno) {
	if t == nil {
		return api.Ident{}, api.ErrNil
	}
	at, ok := t.there(id, now)
	if !ok {
		return api.Ident{}, api.ErrNone
	}
	return t.sessions[at].who, api.OK
}

// find tells where the session of a number stands, and whether there is one.
func (t *Table) find(id int64) (int, bool) {
	at := slices.IndexFunc(t.sessions, func(s session) bool { return s.number == id })
	return at, at >= 0
}

// there tells where the session of a number stands, and whether there is one whose time is not over.
func (t *Table) there(id, now int64) (int, bool) {
	at, ok := t.find(id)
	return at, ok && !t.sessions[at].over(now)
}

// Renew lets a session whose time is not over go on, from now on for a span.
func (t *Table) Renew(id, now, span int64) api.Errno {
	switch {
	case t == nil:
		return api.ErrNil
	case !rightSpan(now, span):
		return api.ErrArg
	}
	at, ok := t.there(id, now)
	if !ok {
		return api.ErrNone
	}
	t.sessions[at].until = end(now, span)
	return api.OK
}

// Close ends a session, whether its time is over or not.
func (t *Table) Close(id int64) api.Errno {
	if t == nil {
		return api.ErrNil
	}
	at, ok := t.find(id)
	if !ok {
		return api.ErrNone
	}
	t.sessions = slices.Delete(t.sessions, at, at+1)
	return api.OK
}

// Expire ends the sessions whose time is over, and tells how many they were.
func (t *Table) Expire(now int64) int {
	if t == nil {
		return 0
	}
	were := len(t.sessions)
	t.sessions = slices.DeleteFunc(t.sessions, func(s session) bool { return s.over(now) })
	return were - len(t.sessions)
}

// Len tells how many sessions there are, those whose time is over among them.
func (t *Table) Len() int {
	if t == nil {
		return 0
	}
	return len(t.sessions)
}

// Of tells the numbers of a tenant's sessions, rising: those that there are when it is called.
func (t *Table) Of(tenant string) iter.Seq[int64] {
	var numbers []int64
	if t != nil {
		for _, s := range t.sessions {
			if s.who.Tenant == tenant {
				numbers = append(numbers, s.number)
			}
		}
	}
	return slices.Values(numbers)
}
