package wire

import (
	"testing"
)

func sample() []Field {
	return []Field{
		{Num: 1, Type: Varint, N: 5},
		{Num: 2, Type: Bytes, B: []byte("a")},
		{Num: 1, Type: Four, N: 6},
		{Num: 2, Type: Bytes, B: []byte("b")},
		{Num: 3, Type: Bytes},
	}
}

// P2.3: field by field; empty bytes are as none.
func TestSame(t *testing.T) {
	if !Same(sample(), sample()) || !Same(nil, nil) || !Same(nil, []Field{}) {
		t.Error("lists that are alike")
	}
	l := sample()
	l[4].B = []byte{}
	if !Same(sample(), l) || !Same(l, sample()) {
		t.Error("empty bytes and none are alike")
	}
	for _, change := range []func(l []Field) []Field{
		func(l []Field) []Field { l[0].Num = 2; return l },
		func(l []Field) []Field { l[0].Type = Eight; return l },
		func(l []Field) []Field { l[0].N = 6; return l },
		func(l []Field) []Field { l[1].B = []byte("b"); return l },
		func(l []Field) []Field { l[1].B = nil; return l },
		func(l []Field) []Field { l[1].B = []byte("aa"); return l },
		func(l []Field) []Field { l[1], l[3] = l[3], l[1]; return l },
		func(l []Field) []Field { return l[:4] },
		func(l []Field) []Field { return append(l, Field{}) },
		func(l []Field) []Field { return nil },
	} {
		if l := change(sample()); Same(sample(), l) || Same(l, sample()) {
			t.Errorf("Same(%v, %v)", sample(), l)
		}
	}
}

// P2.3: the last one of a number, and all of them in order.
func TestLastAll(t *testing.T) {
	for num, want := range map[int][]Field{
		1: {sample()[0], sample()[2]}, 2: {sample()[1], sample()[3]}, 3: {sample()[4]}, 4: nil, 0: nil, -1: nil, 1 << 40: nil,
	} {
		if g := All(sample(), num); !Same(g, want) {
			t.Errorf("All(%d) = %v, want %v", num, g, want)
		}
		f, ok := Last(sample(), num)
		if ok != (len(want) > 0) {
			t.Errorf("Last(%d) = %v, %v", num, f, ok)
		} else if ok && !Same([]Field{f}, want[len(want)-1:]) {
			t.Errorf("Last(%d) = %v, want %v", num, f, want[len(want)-1])
		} else if !ok && !Same([]Field{f}, []Field{{}}) {
			t.Errorf("Last(%d) = %v beside false", num, f)
		}
	}
	if f, ok := Last(nil, 1); ok || !Same([]Field{f}, []Field{{}}) || len(All(nil, 1)) != 0 {
		t.Error("of no fields there is one")
	}
	// What stands in a list is not asked to be right.
	odd := []Field{{Num: -5, Type: 9, N: 1, B: []byte("x")}}
	if f, ok := Last(odd, -5); !ok || !Same([]Field{f}, odd) || !Same(All(odd, -5), odd) {
		t.Error("a number below 0 is not found")
	}
}

// Rules 4 and 5: what is answered shares no memory with what was handed in.
func TestLastAllAreNewMemory(t *testing.T) {
	l := sample()
	f, _ := Last(l, 2)
	f.B[0] = 'x'
	g := All(l, 2)
	g[0].B[0] = 'y'
	g[0].Num = 9
	g[1].B[0] = 'z'
	if !Same(l, sample()) {
		t.Errorf("what was written into an answer is seen: %v", l)
	}
	l[3].B[0] = 'w'
	if f.B[0] != 'x' || g[1].B[0] != 'z' {
		t.Error("what was handed in is kept")
	}
}
