package rewrite

import (
	"slices"

	"belfry/api"
	"belfry/attr"
	"belfry/logq"
	"belfry/metricq"
	"belfry/traceq"
)

// query is a query of one kind. Its calls tell of it, and put it into a view.
type query interface {
	// right tells whether it can be.
	right() api.Errno
	// keys tells those that it names, in any order and as often as they stand.
	keys() []string
	// scoped tells it with a scope put to its matchers.
	scoped(scope []api.Matcher) (query, api.Errno)
	// text tells how it is written.
	text() (string, api.Errno)
}

// The queries of the three kinds.
type (
	points []api.Node
	lines  api.LogQuery
	spans  api.TraceQuery
)

// queryOf tells a plan's query; none, if its kind is none.
func queryOf(p Plan) query {
	switch p.Kind {
	case api.KPoint:
		return points(p.Metric)
	case api.KLine:
		return lines(p.Log)
	case api.KSpan:
		return spans(p.Trace)
	}
	return nil
}

// planOf tells the plan of a query, without a view; of no query the zero one.
func planOf(q query) Plan {
	switch x := q.(type) {
	case points:
		return Plan{Kind: api.KPoint, Metric: x}
	case lines:
		return Plan{Kind: api.KLine, Log: api.LogQuery(x)}
	case spans:
		return Plan{Kind: api.KSpan, Trace: api.TraceQuery(x)}
	}
	return Plan{}
}

// within puts a query into a view.
func within(q query, v api.View) (query, api.Errno) {
	if e := q.right(); e != api.OK {
		return nil, e
	}
	if !shown(q, v) {
		return nil, api.ErrDenied
	}
	in, e := q.scoped(v.Scope)
	if e != api.OK {
		return nil, e
	}
	if e := in.right(); e != api.OK {
		return nil, e
	}
	return in, api.OK
}

// shown tells whether a query names none of a view's hidden keys.
func shown(q query, v api.View) bool {
	named := names(q)
	return !slices.ContainsFunc(v.Hidden, func(key string) bool {
		_, is := slices.BinarySearch(named, key)
		return is
	})
}

// names tells the keys that a query names, rising, none twice.
func names(q query) []string {
	l := q.keys()
	slices.Sort(l)
	return slices.Compact(l)
}

func matchKeys(l []api.Matcher) []string {
	var keys []string
	for _, m := range l {
		keys = append(keys, m.Key)
	}
	return keys
}

// copied tells a view that shares no memory with the one that is handed in.
func copied(v api.View) api.View {
	return api.View{Owner: v.Owner, Scope: slices.Clone(v.Scope), Hidden: slices.Clone(v.Hidden)}
}

func (q points) right() api.Errno {
	return metricq.Right(q)
}

func (q points) keys() []string {
	var keys []string
	for _, n := range q {
		keys = append(keys, n.By...)
	}
	for _, i := range metricq.Selects(q) {
		keys = append(keys, matchKeys(q[i].Match)...)
	}
	return keys
}

func (q points) scoped(scope []api.Matcher) (query, api.Errno) {
	in := slices.Clone(q)
	for i := range in {
		in[i].By = slices.Clone(in[i].By)
	}
	for _, i := range metricq.Selects(q) {
		match, e := attr.Both(q[i].Match, scope)
		if e != api.OK {
			return nil, e
		}
		in[i].Match = match
	}
	return in, api.OK
}

func (q points) text() (string, api.Errno) {
	return metricq.Print(q)
}

func (q lines) right() api.Errno {
	return logq.Right(api.LogQuery(q))
}

// keys leaves the empty one out: it stands for a line's text.
func (q lines) keys() []string {
	keys := append(matchKeys(q.Match), matchKeys(q.Tests)...)
	return slices.DeleteFunc(keys, func(key string) bool { return key == "" })
}

func (q lines) scoped(scope []api.Matcher) (query, api.Errno) {
	match, e := attr.Both(q.Match, scope)
	if e != api.OK {
		return nil, e
	}
	q.Match, q.Tests = match, slices.Clone(q.Tests)
	return q, api.OK
}

func (q lines) text() (string, api.Errno) {
	return logq.Print(api.LogQuery(q))
}

func (q spans) right() api.Errno {
	return traceq.Right(api.TraceQuery(q))
}

func (q spans) keys() []string {
	return append(matchKeys(q.First.Match), matchKeys(q.Second.Match)...)
}

func (q spans) scoped(scope []api.Matcher) (query, api.Errno) {
	first, e := attr.Both(q.First.Match, scope)
	if e != api.OK {
		return nil, e
	}
	q.First.Match = first
	if q.Has == 0 {
		return q, api.OK
	}
	second, e := attr.Both(q.Second.Match, scope)
	if e != api.OK {
		return nil, e
	}
	q.Second.Match = second
	return q, api.OK
}

func (q spans) text() (string, api.Errno) {
	return traceq.Print(api.TraceQuery(q))
}
