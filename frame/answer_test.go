package frame

import (
	"bytes"
	"encoding/binary"
	"math"
	"math/rand"
	"slices"
	"strings"
	"testing"

	"belfry/api"
)

func outs() []api.Out {
	return []api.Out{
		{},
		{Id: 1, Slot: 2, Why: api.ErrQuota, Body: "x"},
		{Id: top, Slot: top, Why: math.MaxInt, Body: strings.Repeat("x", api.MaxText)},
		{Slot: 128},
		{Why: api.ErrEvent},
		{Body: "\xff\x00"},
	}
}

// packed is an answer's bytes, by the chapter's words.
func packed(o api.Out) string {
	var s strings.Builder
	for num, n := range []int64{0, o.Id, o.Slot, int64(o.Why)} {
		if n != 0 {
			s.WriteString(varint(num, uint64(n)))
		}
	}
	if o.Body != "" {
		s.WriteString(piece(4, o.Body))
	}
	return s.String()
}

// listed are answers as Each reads them.
func listed(l ...string) string {
	var s strings.Builder
	for _, b := range l {
		s.Write(binary.AppendUvarint(nil, uint64(len(b))))
		s.WriteString(b)
	}
	return s.String()
}

// P23.3, P23.4: answers are packed as the chapter says, and unpacked again.
func TestPackAndUnpack(t *testing.T) {
	for _, o := range outs() {
		b, e := Pack(o)
		if e != api.OK || string(b) != packed(o) {
			t.Errorf("Pack(%.80v) = %.80x, %d", o, b, e)
		}
		if x, e := Unpack(b); x != o || e != api.OK {
			t.Errorf("Unpack(%.80x) = %.80v, %d", b, x, e)
		}
	}
}

// P23.3: answers that can not be, ErrArg ahead of ErrSize.
func TestPackFaults(t *testing.T) {
	long := strings.Repeat("x", api.MaxText+1)
	for _, c := range []struct {
		e api.Errno
		o api.Out
	}{
		{api.ErrArg, api.Out{Id: -1}},
		{api.ErrArg, api.Out{Id: top + 1}},
		{api.ErrArg, api.Out{Slot: -1}},
		{api.ErrArg, api.Out{Slot: top + 1, Body: long}},
		{api.ErrArg, api.Out{Why: -1}},
		{api.ErrArg, api.Out{Why: math.MinInt, Body: long}},
		{api.ErrSize, api.Out{Body: long}},
	} {
		if b, e := Pack(c.o); b != nil || e != c.e {
			t.Errorf("Pack(%.80v) = %.80x, %d, want %d", c.o, b, e, c.e)
		}
	}
}

// unpackFaults are bytes that are no answer.
func unpackFaults() map[string]api.Errno {
	return map[string]api.Errno{
		strings.Repeat("\x00", 2*api.MaxText+1):       api.ErrSize,
		strings.Repeat("\x00", 2*api.MaxText):         api.ErrWire,
		strings.Repeat(varint(1, 1), api.MaxFields+1): api.ErrFull,
		"\x08":                      api.ErrShort,
		"\x22\x02x":                 api.ErrShort,
		"\x00\x01":                  api.ErrWire,
		varint(1, top+1):            api.ErrForm,
		varint(1, 1<<63):            api.ErrForm,
		varint(2, top+1):            api.ErrForm,
		varint(3, 1<<63):            api.ErrForm,
		varint(3, math.MaxUint64):   api.ErrForm,
		varint(5, 1):                api.ErrForm,
		piece(1, "x"):               api.ErrForm,
		varint(4, 1):                api.ErrForm,
		varint(2, 1) + varint(1, 1): api.ErrForm,
		varint(1, 1) + varint(1, 1): api.ErrForm,
		varint(1, 0):                api.ErrForm,
		piece(4, ""):                api.ErrForm,
		"\x08\x81\x00":              api.ErrForm,
		"\x22\x81\x00x":             api.ErrForm,
		piece(4, strings.Repeat("x", api.MaxText+1)):          api.ErrForm,
		varint(1, top+1) + piece(5, "x") + varint(1, 1):       api.ErrForm,
		varint(1, 1) + "\x15\x01\x00\x00\x00":                 api.ErrForm,
		varint(1, 1) + "\x11\x01\x00\x00\x00\x00\x00\x00\x00": api.ErrForm,
	}
}

// P23.3: bytes that are no answer.
func TestUnpackFaults(t *testing.T) {
	for s, want := range unpackFaults() {
		if o, e := Unpack([]byte(s)); o != (api.Out{}) || e != want {
			t.Errorf("Unpack(%.80x) = %.80v, %d, want %d", s, o, e, want)
		}
	}
}

func each(t *testing.T, s string, want []api.Out, why api.Errno, place int) {
	t.Helper()
	if l, e, at := Each([]byte(s)); !slices.Equal(l, want) || e != why || at != place {
		t.Errorf("Each(%.80x) = %.80v, %d, %d, want %.80v, %d, %d", s, l, e, at, want, why, place)
	}
}

// P23.3: faults of what stands one behind the other, and their places.
func TestEachFaults(t *testing.T) {
	good := listed(packed(api.Out{Id: 1}), packed(api.Out{}), packed(api.Out{Body: "abc"}))
	n := len(good)
	each(t, "", nil, api.OK, 0)
	each(t, "\x00", []api.Out{{}}, api.OK, 0)
	each(t, good, []api.Out{{Id: 1}, {}, {Body: "abc"}}, api.OK, 0)
	for s, want := range unpackFaults() {
		each(t, listed(s), nil, want, 0)
		each(t, good+listed(s), nil, want, n)
		each(t, good+listed(s)+good, nil, want, n)
	}
	for _, c := range []struct {
		what string
		e    api.Errno
		s    string
	}{
		{"a length that ends too early", api.ErrShort, "\x80"},
		{"a length that never ends", api.ErrShort, strings.Repeat("\xff", 11)},
		{"bytes that are missing", api.ErrShort, "\x02\x08"},
		{"a length above every number of bytes", api.ErrShort, "\xff\xff\xff\xff\xff\xff\xff\xff\xff\x01"},
		{"a length above 64 bits", api.ErrForm, "\xff\xff\xff\xff\xff\xff\xff\xff\xff\x02"},
		{"a length of eleven bytes", api.ErrForm, strings.Repeat("\x80", 10) + "\x00"},
		{"a length that could be shorter", api.ErrForm, "\x82\x00\x08\x01"},
		{"a length of nothing that could be shorter", api.ErrForm, "\x80\x00"},
		{"a length that could be shorter, of what is not all there", api.ErrShort, "\x83\x00\x08\x01"},
		{"a length that could be shorter, of no answer", api.ErrWire, "\x81\x00\x07"},
	} {
		each(t, c.s, nil, c.e, 0)
		each(t, good+c.s, nil, c.e, n)
	}
}

// P23.5: answers one behind the other are read as they were; cut anywhere, as those that are whole, or ErrShort.
func TestEachCutAnywhere(t *testing.T) {
	r := rand.New(rand.NewSource(2))
	for range 300 {
		var l []api.Out
		var s string
		ends := []int{0}
		for range r.Intn(6) {
			o := api.Out{Id: r.Int63n(300), Slot: r.Int63n(300), Why: api.Errno(r.Intn(3)), Body: strings.Repeat("x", r.Intn(3)*70)}
			b, _ := Pack(o)
			l = append(l, o)
			s += listed(string(b))
			ends = append(ends, len(s))
		}
		each(t, s, l, api.OK, 0)
		for cut := range len(s) {
			if at, whole := slices.BinarySearch(ends, cut); whole {
				each(t, s[:cut], l[:at], api.OK, 0)
			} else {
				each(t, s[:cut], nil, api.ErrShort, ends[at-1])
			}
		}
	}
}

// P23.4: Unpack of Pack is the answer, and Pack of Unpack is the bytes; so of Each.
func TestAnswersAsWritten(t *testing.T) {
	r := rand.New(rand.NewSource(3))
	numbers := []int64{0, 1, 127, 128, top, top + 1, -1, math.MaxInt64, math.MinInt64}
	number := func() int64 { return numbers[r.Intn(len(numbers))] }
	for range 20000 {
		o := api.Out{Id: number(), Slot: number(), Why: api.Errno(number()), Body: []string{"", "x", "\xff"}[r.Intn(3)]}
		b, e := Pack(o)
		right := o.Id >= 0 && o.Id <= top && o.Slot >= 0 && o.Slot <= top && o.Why >= 0
		if right != (e == api.OK) {
			t.Fatalf("Pack(%v) = %x, %d", o, b, e)
		}
		if x, e := Unpack(b); right && (x != o || e != api.OK) {
			t.Fatalf("Unpack(%x) = %v, %d", b, x, e)
		}
		mutate(r, &b)
		if x, e := Unpack(b); e == api.OK {
			if again, e := Pack(x); e != api.OK || !bytes.Equal(again, b) {
				t.Fatalf("Pack(Unpack(%x)) = %x, %d", b, again, e)
			}
		}
		b = []byte(listed(string(b), packed(api.Out{Id: 3})))
		mutate(r, &b)
		if l, e, at := Each(b); e == api.OK {
			var parts []string
			for _, o := range l {
				parts = append(parts, packed(o))
			}
			if at != 0 || listed(parts...) != string(b) {
				t.Fatalf("Each(%x) = %v, %d", b, l, at)
			}
		} else if l != nil {
			t.Fatalf("Each(%x) = %v beside %d", b, l, e)
		}
	}
}
