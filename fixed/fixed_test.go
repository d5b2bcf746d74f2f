package fixed

import (
	"math"
	"math/big"
	"math/rand"
	"testing"

	"belfry/api"
)

const least = math.MinInt64

// edges are the numbers at which something turns: the bounds, the least whole number, 0, One, and their neighbours.
func edges() []int64 {
	return []int64{
		least, -Top, -Top + 1, -Top + 2, -Top / 2, -9223372036854000000, -9223372036855000,
		-9223372036854, -9223372036855, -1 << 32, -2 * api.One, -api.One - 1, -api.One, -api.One + 1, -500000, -7, -2, -1,
		0, 1, 2, 7, 500000, api.One - 1, api.One, api.One + 1, 2 * api.One, 1 << 32,
		9223372036854, 9223372036855, 9223372036855000, 9223372036854000000, Top / 2, Top/2 + 1, Top - 2, Top - 1, Top,
	}
}

// numbers are the edges, and some of every size between them.
func numbers() []int64 {
	l := edges()
	r := rand.New(rand.NewSource(1))
	for range 150 {
		l = append(l, int64(r.Uint64())>>r.Intn(64))
	}
	return l
}

func whole(a int64) *big.Int {
	if a == least {
		a = -Top
	}
	return big.NewInt(a)
}

func saturated(x *big.Int) int64 {
	top := big.NewInt(Top)
	if x.CmpAbs(top) > 0 {
		return Top * int64(x.Sign())
	}
	return x.Int64()
}

func bigProduct(a, b int64) int64 {
	x := new(big.Int).Mul(whole(a), whole(b))
	return saturated(x.Quo(x, big.NewInt(api.One)))
}

func bigQuotient(a, b int64) int64 {
	x := new(big.Int).Mul(whole(a), big.NewInt(api.One))
	return saturated(x.Quo(x, whole(b)))
}

func sign(a int64) int {
	return big.NewInt(a).Sign()
}

// P1.1: the sum, the difference, the sign turned, the size.
func TestAddSubNegAbs(t *testing.T) {
	for _, a := range numbers() {
		if g, w := Neg(a), saturated(new(big.Int).Neg(whole(a))); g != w {
			t.Errorf("Neg(%d) = %d, want %d", a, g, w)
		}
		if g, w := Abs(a), saturated(new(big.Int).Abs(whole(a))); g != w {
			t.Errorf("Abs(%d) = %d, want %d", a, g, w)
		}
		for _, b := range numbers() {
			if g, w := Add(a, b), saturated(new(big.Int).Add(whole(a), whole(b))); g != w {
				t.Errorf("Add(%d, %d) = %d, want %d", a, b, g, w)
			}
			if g, w := Sub(a, b), saturated(new(big.Int).Sub(whole(a), whole(b))); g != w {
				t.Errorf("Sub(%d, %d) = %d, want %d", a, b, g, w)
			}
		}
	}
}

// P1.1: the product and the quotient, cut off towards 0; ErrZero by 0.
func TestMulDiv(t *testing.T) {
	for _, a := range numbers() {
		for _, b := range numbers() {
			if g, w := Mul(a, b), bigProduct(a, b); g != w {
				t.Errorf("Mul(%d, %d) = %d, want %d", a, b, g, w)
			}
			g, e := Div(a, b)
			if b == 0 {
				if g != 0 || e != api.ErrZero {
					t.Errorf("Div(%d, 0) = %d, %d", a, g, e)
				}
				continue
			}
			if w := bigQuotient(a, b); g != w || e != api.OK {
				t.Errorf("Div(%d, %d) = %d, %d, want %d", a, b, g, e, w)
			}
		}
	}
}

// P1.1: the document's examples, by hand.
func TestReckonedExamples(t *testing.T) {
	for _, c := range []struct{ got, want int64 }{
		{Mul(1500000, 2000000), 3000000},
		{Mul(-1500000, 2000000), -3000000},
		{Mul(1, 999999), 0},
		{Mul(-1, 999999), 0},
		{Mul(Top, Top), Top},
		{Mul(least, Top), -Top},
		{Mul(least, least), Top},
		{Add(Top, 1), Top},
		{Add(-Top, -1), -Top},
		{Add(least, 1), -Top + 1},
		{Add(least, Top), 0},
		{Sub(0, least), Top},
		{Sub(least, least), 0},
		{Sub(-Top, 1), -Top},
		{Neg(least), Top},
		{Abs(least), Top},
	} {
		if c.got != c.want {
			t.Errorf("%d, want %d", c.got, c.want)
		}
	}
	for _, c := range []struct{ a, b, want int64 }{
		{api.One, 3000000, 333333},
		{-api.One, 3000000, -333333},
		{api.One, -3000000, -333333},
		{-api.One, -3000000, 333333},
		{2 * api.One, 3000000, 666666},
		{Top, 1, Top},
		{-Top, 1, -Top},
		{least, 1, -Top},
		{least, least, api.One},
		{least, api.One, -Top},
		{1, Top, 0},
	} {
		if q, e := Div(c.a, c.b); q != c.want || e != api.OK {
			t.Errorf("Div(%d, %d) = %d, %d, want %d", c.a, c.b, q, e, c.want)
		}
	}
}

// P1.1: Sum goes from the left, so that a bound which is met on the way counts.
func TestSum(t *testing.T) {
	for _, c := range []struct {
		l    []int64
		want int64
	}{
		{nil, 0},
		{[]int64{}, 0},
		{[]int64{5}, 5},
		{[]int64{least}, -Top},
		{[]int64{1, 2, 3, -10}, -4},
		{[]int64{Top, 1, -1}, Top - 1},
		{[]int64{1, -1, Top}, Top},
		{[]int64{-Top, -5, 7}, -Top + 7},
		{[]int64{least, Top}, 0},
	} {
		if g := Sum(c.l...); g != c.want {
			t.Errorf("Sum(%v) = %d, want %d", c.l, g, c.want)
		}
	}
	l := []int64{least, 3, Top}
	Sum(l...)
	if l[0] != least || l[1] != 3 || l[2] != Top {
		t.Errorf("Sum changed its list: %v", l)
	}
}

// P1.2: whole numbers, and back.
func TestOfWhole(t *testing.T) {
	for _, n := range numbers() {
		x := new(big.Int).Mul(whole(n), big.NewInt(api.One))
		if g, w := Of(n), saturated(x); g != w {
			t.Errorf("Of(%d) = %d, want %d", n, g, w)
		}
		y := new(big.Int).Quo(whole(n), big.NewInt(api.One))
		if g, w := Whole(n), y.Int64(); g != w {
			t.Errorf("Whole(%d) = %d, want %d", n, g, w)
		}
	}
	for _, c := range []struct{ got, want int64 }{
		{Of(3), 3000000}, {Of(-3), -3000000}, {Of(9223372036854), 9223372036854000000}, {Of(9223372036855), Top}, {Of(-9223372036855), -Top}, {Of(least), -Top},
		{Whole(1999999), 1}, {Whole(-1999999), -1}, {Whole(-999999), 0}, {Whole(least), -9223372036854}, {Whole(Top), 9223372036854},
	} {
		if c.got != c.want {
			t.Errorf("%d, want %d", c.got, c.want)
		}
	}
}

// P1.2, P1.5: Cmp is an order, and the least whole number is -Top in it.
func TestCmp(t *testing.T) {
	for _, a := range numbers() {
		for _, b := range numbers() {
			if g, w := Cmp(a, b), whole(a).Cmp(whole(b)); g != w {
				t.Errorf("Cmp(%d, %d) = %d, want %d", a, b, g, w)
			}
		}
	}
	if Cmp(least, -Top) != 0 || Cmp(-Top, least) != 0 || Cmp(least, -Top+1) != -1 {
		t.Error("the least whole number is not taken as -Top")
	}
}

// P1.5: adding a third one keeps the order, or makes both the same.
func TestAddKeepsOrder(t *testing.T) {
	l := edges()
	for _, a := range l {
		for _, b := range l {
			for _, c := range l {
				if Cmp(a, b) < 0 && Cmp(Add(a, c), Add(b, c)) > 0 {
					t.Errorf("%d < %d, not so with %d added", a, b, c)
				}
			}
		}
	}
}

// P1.6: nothing is beyond the bounds, order of two does not matter, One and Neg of Neg change nothing.
func TestSaturating(t *testing.T) {
	for _, a := range numbers() {
		taken := saturated(whole(a))
		if Mul(a, api.One) != taken || Mul(api.One, a) != taken {
			t.Errorf("Mul of %d by One = %d", a, Mul(a, api.One))
		}
		if Neg(Neg(a)) != taken {
			t.Errorf("Neg of Neg of %d = %d", a, Neg(Neg(a)))
		}
		for _, b := range numbers() {
			if Add(a, b) != Add(b, a) || Mul(a, b) != Mul(b, a) {
				t.Errorf("the order of %d and %d matters", a, b)
			}
			q, _ := Div(a, b)
			for _, v := range []int64{Add(a, b), Sub(a, b), Mul(a, b), Sum(a, b), Of(a), Neg(a), Abs(a), q} {
				if v < -Top {
					t.Errorf("%d and %d: beyond -Top", a, b)
				}
			}
		}
	}
}

// P1.7: the signs together; a greater divisor gives no greater size.
func TestSigns(t *testing.T) {
	for _, a := range numbers() {
		for _, b := range numbers() {
			both := sign(a) * sign(b)
			if p := Mul(a, b); p != 0 && sign(p) != both {
				t.Errorf("the sign of Mul(%d, %d) = %d", a, b, p)
			}
			if q, e := Div(a, b); e == api.OK && q != 0 && sign(q) != both {
				t.Errorf("the sign of Div(%d, %d) = %d", a, b, q)
			}
		}
	}
	for _, a := range edges() {
		for _, b := range edges() {
			for _, c := range edges() {
				if b == 0 || c == 0 || Abs(b) >= Abs(c) {
					continue
				}
				q, _ := Div(a, b)
				r, _ := Div(a, c)
				if Abs(r) > Abs(q) {
					t.Errorf("Div(%d, %d) = %d, Div(%d, %d) = %d", a, b, q, a, c, r)
				}
			}
		}
	}
}
