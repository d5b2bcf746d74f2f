package quota

import "belfry/fixed"

// parts is how many parts a millionth has: a rate of one millionth a second brings one part each nanosecond, so that reckoning in parts loses nothing.
const parts = 1000000000

// bucket is what a tenant may take. MaxBurst, in parts, is far below the greatest number.
type bucket struct {
	rate  int64
	burst int64 // in parts
	holds int64 // in parts
	upTo  int64 // the time that it was filled up to
	count Count
}

func full(rate, burst, now int64) bucket {
	return bucket{rate: rate, burst: burst * parts, holds: burst * parts, upTo: now}
}

// fill lets what has come since the last time come in.
func (b *bucket) fill(now int64) {
	if now <= b.upTo {
		return
	}
	// Of a whole rate as a number, Mul tells the whole product: held at fixed.Top, which is above every burst.
	b.add(fixed.Mul(fixed.Of(b.rate), now-b.upTo))
	b.upTo = now
}

// add puts some parts in; what is above the burst runs over.
func (b *bucket) add(n int64) {
	b.holds = min(fixed.Add(b.holds, n), b.burst)
}

func (b *bucket) take(cost int64) {
	b.holds -= cost * parts
}

func (b *bucket) covers(cost int64) bool {
	return b.holds >= cost*parts
}

func (b *bucket) whole() int64 {
	return b.holds / parts
}

// when tells the least time, from that on which it was filled up to, at which it covers a cost; or that there is none.
func (b *bucket) when(cost int64) (int64, bool) {
	if b.covers(cost) {
		return b.upTo, true
	}
	if cost*parts > b.burst || b.rate == 0 {
		return 0, false
	}
	missing := cost*parts - b.holds
	return b.upTo + (missing+b.rate-1)/b.rate, true
}
