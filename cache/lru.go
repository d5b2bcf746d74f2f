package cache

// LRU is things by their keys, with room for some, in an order: the one that was put, or asked for, last is the first. An LRU that NewLRU did not make has no room, and is as a nil one.
type LRU[K comparable, V any] struct {
	most  int
	count int
	found map[K]*node[K, V]
	ends  node[K, V] // no thing: the first one stands behind it, and the last one ahead of it
}

// node is a thing in its place between two others.
type node[K comparable, V any] struct {
	key           K
	value         V
	ahead, behind *node[K, V]
}

// NewLRU tells an LRU with room for so many things; nil, if that is below 1.
func NewLRU[K comparable, V any](most int) *LRU[K, V] {
	if most < 1 {
		return nil
	}
	l := &LRU[K, V]{most: most, found: map[K]*node[K, V]{}}
	l.ends.ahead, l.ends.behind = &l.ends, &l.ends
	return l
}

// none tells whether there is no LRU, or one without room.
func (l *LRU[K, V]) none() bool {
	return l == nil || l.most < 1
}

// Get tells a key's thing, which is the first one then, and whether there is one.
func (l *LRU[K, V]) Get(k K) (V, bool) {
	n := l.find(k)
	if n == nil {
		var none V
		return none, false
	}
	n.leave()
	l.lead(n)
	return n.value, true
}

// Put gives a key a thing, which is the first one then. If there is no room for it, it tells the key of the last one, which goes, and true.
func (l *LRU[K, V]) Put(k K, v V) (K, bool) {
	var none K
	if l.none() {
		return none, false
	}
	if old := l.find(k); old != nil {
		l.drop(old)
	}
	l.add(k, v)
	if l.count <= l.most {
		return none, false
	}
	last := l.ends.ahead
	l.drop(last)
	return last.key, true
}

// Del lets a key's thing go, and tells whether it was there.
func (l *LRU[K, V]) Del(k K) bool {
	n := l.find(k)
	if n == nil {
		return false
	}
	l.drop(n)
	return true
}

// Len tells how many things there are.
func (l *LRU[K, V]) Len() int {
	if l == nil {
		return 0
	}
	return l.count
}

// Keys tells the keys, in order.
func (l *LRU[K, V]) Keys() []K {
	if l.none() {
		return nil
	}
	var keys []K
	for n := l.ends.behind; n != &l.ends; n = n.behind {
		keys = append(keys, n.key)
	}
	// What append has laid behind the keys is not handed out.
	return keys[:len(keys):len(keys)]
}

// find tells where a key's thing stands; nil, if there is none.
func (l *LRU[K, V]) find(k K) *node[K, V] {
	if l.none() || !isItself(k) {
		return nil
	}
	return l.found[k]
}

// add puts a thing that is not there at the first place.
func (l *LRU[K, V]) add(k K, v V) {
	n := &node[K, V]{key: k, value: v}
	l.lead(n)
	l.count++
	if isItself(k) {
		l.found[k] = n
	}
}

// drop lets a thing that is there go.
func (l *LRU[K, V]) drop(n *node[K, V]) {
	n.leave()
	l.count--
	if isItself(n.key) {
		delete(l.found, n.key)
	}
}

// lead puts a thing that stands nowhere at the first place.
func (l *LRU[K, V]) lead(n *node[K, V]) {
	n.ahead, n.behind = &l.ends, l.ends.behind
	n.ahead.behind, n.behind.ahead = n, n
}

// leave takes a thing out of its place.
func (n *node[K, V]) leave() {
	n.ahead.behind, n.behind.ahead = n.behind, n.ahead
}

// isItself tells whether a key is the same as itself. A float that is no number is not, and an interface may hold what can not be compared at all: a map would not let go of the one, and panic at the other. Things of such keys stand in the order, where nobody finds them, until they go as the last.
func isItself[K comparable](k K) (same bool) {
	defer func() {
		if recover() != nil {
			same = false
		}
	}()
	again := k
	return k == again
}
