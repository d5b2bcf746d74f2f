package fixed

import (
	"math/big"
	"math/rand"
	"regexp"
	"strings"
	"testing"

	"belfry/api"
)

var form = regexp.MustCompile(`\A-?(0|[1-9][0-9]{0,12})(\.[0-9]{1,6})?\z`)

// parseModel reads by the form and by ratios.
func parseModel(s string) (int64, api.Errno) {
	if !form.MatchString(s) {
		return 0, api.ErrForm
	}
	x, _ := new(big.Rat).SetString(s)
	x.Mul(x, new(big.Rat).SetInt64(api.One))
	if x.Num().CmpAbs(big.NewInt(Top)) > 0 {
		return 0, api.ErrArg
	}
	return x.Num().Int64(), api.OK
}

// P1.3: as text, with no more digits than it needs.
func TestText(t *testing.T) {
	for _, c := range []struct {
		v    int64
		want string
	}{
		{0, "0"}, {1, "0.000001"}, {-1, "-0.000001"}, {7, "0.000007"}, {100000, "0.1"}, {-500000, "-0.5"}, {120, "0.00012"}, {999999, "0.999999"},
		{api.One, "1"}, {-api.One, "-1"}, {-1500000, "-1.5"}, {10 * api.One, "10"}, {10*api.One + 10, "10.00001"},
		{Top, "9223372036854.775807"}, {-Top, "-9223372036854.775807"}, {least, "-9223372036854.775807"},
	} {
		if g := Text(c.v); g != c.want {
			t.Errorf("Text(%d) = %q, want %q", c.v, g, c.want)
		}
	}
	for _, v := range numbers() {
		if s := Text(v); !form.MatchString(s) || strings.Contains(s, ".") && strings.HasSuffix(s, "0") {
			t.Errorf("Text(%d) = %q", v, s)
		}
	}
}

// P1.3: what is in the form.
func TestParseRight(t *testing.T) {
	for s, want := range map[string]int64{
		"0": 0, "-0": 0, "0.0": 0, "-0.000000": 0, "5": 5000000, "-5": -5000000, "10": 10000000,
		"1.5": 1500000, "1.50": 1500000, "1.500000": 1500000, "-1.25": -1250000,
		"0.1": 100000, "0.12": 120000, "0.123": 123000, "0.1234": 123400, "0.12345": 123450, "0.123456": 123456, "0.000007": 7,
		"9223372036854": 9223372036854000000, "9223372036854.775807": Top, "-9223372036854.775807": -Top,
	} {
		if g, e := Parse(s); g != want || e != api.OK {
			t.Errorf("Parse(%q) = %d, %d, want %d", s, g, e, want)
		}
	}
}

// P1.3: what is not in the form, and what is beyond Top; the form is told first.
func TestParseWrong(t *testing.T) {
	for _, s := range []string{
		"", "-", "+", "+1", "--1", " 1", "1 ", "1-", "-.5", ".", ".5", "5.", "-5.", "1..2", "1.2.3", "1.-2", "1.2-",
		"00", "01", "-01", "00.5", "-00", "0x1", "1e3", "1,5", "a", "1a", "1.a", "1.5a", "\x00", "1\x00", "\xff", "١", "1.٢", "１", "NaN", "Inf",
		"10000000000000", "12345678901234", "00000000000000", "99999999999999", "0.1234567", "0.0000000", "9223372036854.7758070", "9223372036854.7758080",
		"-10000000000000", "-0.1234567", "1\n", "\n1", strings.Repeat("1", 40), strings.Repeat("0", 70000), "18446744073709551616", "184467440737095516.16", "1." + strings.Repeat("0", 70000),
	} {
		if g, e := Parse(s); g != 0 || e != api.ErrForm {
			t.Errorf("Parse(%.30q) = %d, %d, want ErrForm", s, g, e)
		}
	}
	for _, s := range []string{
		"9223372036854.775808", "-9223372036854.775808", "9223372036854.775809", "9223372036854.8", "9223372036855", "-9223372036855", "9999999999999", "-9999999999999", "9999999999999.999999",
	} {
		if g, e := Parse(s); g != 0 || e != api.ErrArg {
			t.Errorf("Parse(%q) = %d, %d, want ErrArg", s, g, e)
		}
	}
}

// P1.4, P9: what was written is read again.
func TestParseOfText(t *testing.T) {
	for _, v := range numbers() {
		if g, e := Parse(Text(v)); Cmp(g, v) != 0 || g < -Top || e != api.OK {
			t.Errorf("Parse(%q) = %d, %d, want %d", Text(v), g, e, v)
		}
	}
}

// P1, P1.3: any texts, of the letters that matter.
func TestParseAnyText(t *testing.T) {
	r := rand.New(rand.NewSource(3))
	const letters = "0001235789999..--+ a\xff"
	for range 200000 {
		b := make([]byte, r.Intn(24))
		for i := range b {
			b[i] = letters[r.Intn(len(letters))]
		}
		checkParse(t, string(b))
		digits := make([]byte, r.Intn(18))
		for i := range digits {
			digits[i] = "0123456789999"[r.Intn(13)]
		}
		checkParse(t, string(digits))
		checkParse(t, "-"+string(digits)+"."+string(digits[len(digits)/2:]))
	}
}

func checkParse(t *testing.T, s string) {
	t.Helper()
	g, e := Parse(s)
	if w, we := parseModel(s); g != w || e != we {
		t.Errorf("Parse(%q) = %d, %d, want %d, %d", s, g, e, w, we)
	}
}
