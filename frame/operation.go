package frame

import "belfry/api"

// traceSize is how many bytes tell a trace.
const traceSize = 16

// slotBytes is how many bytes of what is put take one slot more.
const slotBytes = 4096

// head is what every request has: its number, and what it asks.
type head struct {
	Id int64
	Op int
}

// asked is a request with its head within it, and beside that what operations have.
type asked struct {
	head
	Kind int
	Text string
	At   int64
	From int64
	To   int64
	Body []byte
}

// askedOf shares the request's memory.
func askedOf(r Request) asked {
	return asked{head{r.Id, r.Op}, r.Kind, r.Text, r.At, r.From, r.To, r.Body}
}

func (a asked) request() Request {
	return Request{a.Id, a.Op, a.Kind, a.Text, a.At, a.From, a.To, a.Body}
}

// operation is what there is to know of one thing that can be asked.
type operation struct {
	word    string
	admin   bool
	numbers func(asked) bool  // can those be that it has?
	sizes   func(asked) bool  // have its text and its body as many bytes as they may?
	rest    func(asked) asked // the request without the fields that it has
	cost    func(asked) int64
}

// operations is the table of all that can be asked, by its numbers; there is none of the number 0.
func operations() []operation {
	return []operation{
		Put:    {"put", false, asked.rightKind, asked.rightSize, asked.withoutSignals, asked.bodySlots},
		Query:  {"query", false, asked.rightQuery, asked.rightLine, asked.withoutQuery, asked.twoSlots},
		Trace:  {"trace", false, asked.noNumbers, asked.rightTrace, asked.withoutBody, asked.twoSlots},
		Stats:  {"stats", false, asked.noNumbers, asked.rightSize, asked.withoutNothing, asked.oneSlot},
		Policy: {"policy", true, asked.noNumbers, asked.rightSize, asked.withoutText, asked.oneSlot},
		Grant:  {"grant", true, asked.noNumbers, asked.rightSize, asked.withoutText, asked.oneSlot},
		Revoke: {"revoke", true, asked.rightGrant, asked.rightSize, asked.withoutAt, asked.oneSlot},
		Retain: {"retain", true, asked.rightAt, asked.rightSize, asked.withoutAt, asked.oneSlot},
	}
}

// operation tells what is known of what is asked; false, if it is nothing that can be.
func (h head) operation() (operation, bool) {
	table := operations()
	if h.Op < Put || h.Op >= len(table) {
		return operation{}, false
	}
	return table[h.Op], true
}

func (a asked) noNumbers() bool {
	return true
}

func (a asked) rightKind() bool {
	return a.Kind >= api.KPoint && a.Kind <= api.KSpan
}

func (a asked) rightAt() bool {
	return isTime(a.At)
}

// rightGrant tells whether At can be the number of a grant.
func (a asked) rightGrant() bool {
	return isNumber(a.At) && a.At > 0
}

// rightQuery: metrics are asked for at a time, the others from one time to another.
func (a asked) rightQuery() bool {
	if a.Kind == api.KPoint {
		return a.rightAt()
	}
	return a.rightKind() && isTime(a.From) && isTime(a.To) && a.From <= a.To
}

// rightSize holds of a text and a body that there should not be as well: that they are too long is told ahead of that.
func (a asked) rightSize() bool {
	return len(a.Text) <= api.MaxText && len(a.Body) <= api.MaxText
}

func (a asked) rightLine() bool {
	return len(a.Text) <= api.MaxLine && a.rightSize()
}

func (a asked) rightTrace() bool {
	return len(a.Body) == traceSize && a.rightSize()
}

func (a asked) withoutNothing() asked {
	return a
}

func (a asked) withoutText() asked {
	a.Text = ""
	return a
}

func (a asked) withoutAt() asked {
	a.At = 0
	return a
}

func (a asked) withoutBody() asked {
	a.Body = nil
	return a
}

func (a asked) withoutSignals() asked {
	a.Kind = 0
	return a.withoutBody()
}

func (a asked) withoutQuery() asked {
	if a.Kind == api.KPoint {
		a = a.withoutAt()
	} else {
		a.From, a.To = 0, 0
	}
	a.Kind = 0
	return a.withoutText()
}

func (a asked) oneSlot() int64 {
	return 1
}

func (a asked) twoSlots() int64 {
	return 2
}

func (a asked) bodySlots() int64 {
	return 1 + int64(len(a.Body)/slotBytes)
}
