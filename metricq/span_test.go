package metricq

import (
	"math"
	"math/big"
	"math/rand"
	"regexp"
	"strings"
	"testing"

	"belfry/api"
)

// P13.3: spans, in the greatest unit that divides them, and back.
func TestSpan(t *testing.T) {
	for n, want := range map[int64]string{
		1: "1ns", 999: "999ns", 1000: "1us", 1001: "1001ns", 999999: "999999ns", 1000000: "1ms", 1500000: "1500us", 999999999: "999999999ns",
		1000000000: "1s", 59000000000: "59s", 60000000000: "1m", 61000000000: "61s", 90000000000: "90s", 300000000000: "5m",
		3600000000000: "1h", 3660000000000: "61m", 86400000000000: "24h", 312 * 3600000000000: "312h", 1125899000000000: "1125899s",
		999999999000: "999999999us", 999999999000000: "999999999ms",
	} {
		if s, e := Span(n); s != want || e != api.OK {
			t.Errorf("Span(%d) = %q, %d", n, s, e)
		}
		if back, e := ParseSpan(want); back != n || e != api.OK {
			t.Errorf("ParseSpan(%q) = %d, %d", want, back, e)
		}
	}
}

// P13.3: numbers that are no span, or have more than nine digits in each unit.
func TestNoSpan(t *testing.T) {
	for _, n := range []int64{
		0, -1, -1000000000, math.MinInt64, api.MaxTime + 1, 313 * 3600000000000, math.MaxInt64,
		1000000001, 9999999999, 1000000001000, 1000000001000000, api.MaxTime, api.MaxTime - 624 + 1,
	} {
		if s, e := Span(n); s != "" || e != api.ErrArg {
			t.Errorf("Span(%d) = %q, %d", n, s, e)
		}
	}
}

// P13.3: texts that are read in another unit than they are written in.
func TestParseSpan(t *testing.T) {
	for s, want := range map[string]int64{
		"60s": 60000000000, "60m": 3600000000000, "1000ns": 1000, "1000ms": 1000000000, "90s": 90000000000, "18764m": 18764 * 60000000000,
	} {
		if n, e := ParseSpan(s); n != want || e != api.OK {
			t.Errorf("ParseSpan(%q) = %d, %d", s, n, e)
		}
	}
	for _, s := range []string{
		"", "s", "ns", "5", "0", "0s", "00s", "05m", "0ns", "5 m", " 5m", "5m ", "-5m", "+5m", "1.5m", "5M", "5x", "5d", "5mm", "5m5", "5mn", "5n", "5sm", "5h1m", "5\xb5s", "٣s",
		"1234567890ns", "1000000000ns", "0000000001s", "9999999999h", "5m\x00", strings.Repeat("9", 1000) + "s",
	} {
		if n, e := ParseSpan(s); n != 0 || e != api.ErrForm {
			t.Errorf("ParseSpan(%q) = %d, %d", s, n, e)
		}
	}
	for _, s := range []string{"313h", "999999999h", "18765m", "999999999m", "1125900s", "999999999s", "5124096h", "2562048h"} {
		if n, e := ParseSpan(s); n != 0 || e != api.ErrArg {
			t.Errorf("ParseSpan(%q) = %d, %d", s, n, e)
		}
	}
}

var spanForm = regexp.MustCompile(`^([1-9][0-9]{0,8})(ns|us|ms|s|m|h)$`)

// modelSpan is a second way to read a span, by greater numbers.
func modelSpan(s string) (int64, api.Errno) {
	m := spanForm.FindStringSubmatch(s)
	if m == nil {
		return 0, api.ErrForm
	}
	n, _ := new(big.Int).SetString(m[1], 10)
	n.Mul(n, big.NewInt(map[string]int64{"ns": 1, "us": 1e3, "ms": 1e6, "s": 1e9, "m": 60e9, "h": 3600e9}[m[2]]))
	if n.Cmp(big.NewInt(api.MaxTime)) > 0 {
		return 0, api.ErrArg
	}
	return n.Int64(), api.OK
}

// P13.3, P13.4: spans of any kind, against the second way; what is written is read again, and is of the fewest digits.
func TestSpanByModel(t *testing.T) {
	r := rand.New(rand.NewSource(133))
	written := 0
	for range 50000 {
		b := make([]byte, r.Intn(5))
		for i := range b {
			b[i] = "0123456789nums"[r.Intn(14)]
		}
		s := string(b) + []string{"", "ns", "us", "ms", "s", "m", "h"}[r.Intn(7)]
		if r.Intn(3) == 0 {
			s = "1" + strings.Repeat("0", r.Intn(10)) + s
		}
		n, e := ParseSpan(s)
		if want, we := modelSpan(s); n != want || e != we {
			t.Fatalf("ParseSpan(%q) = %d, %d, want %d, %d", s, n, e, want, we)
		}
		if e != api.OK {
			n = r.Int63n(api.MaxTime) + 1
			n -= n % []int64{1, 1e3, 1e6, 1e9}[r.Intn(4)]
		}
		text, e2 := Span(n)
		if e == api.OK && (e2 != api.OK || len(text) > len(s)) {
			t.Fatalf("Span(%d) = %q, %d, but it is %q", n, text, e2, s)
		}
		if e2 != api.OK {
			continue
		}
		written++
		if back, e := ParseSpan(text); back != n || e != api.OK {
			t.Fatalf("ParseSpan(%q) = %d, %d, want %d", text, back, e, n)
		}
	}
	if written < 5000 {
		t.Errorf("only %d spans were written: the test tells little", written)
	}
}
