package wire

import (
	"math"
	"strings"
	"testing"

	"commons/api"
)

// wants holds what a Writer tells against bytes and an error.
func wants(t *testing.T, what string, w *Writer, bytes string, e api.Errno) {
	t.Helper()
	got, err := w.Bytes()
	if got != bytes || err != e {
		t.Errorf("%s: %.40q, %d, not %.40q, %d", what, got, err, bytes, e)
	}
}

// is holds one answer against what is wanted.
func is[T comparable](t *testing.T, what string, got, want T) {
	t.Helper()
	if got != want {
		t.Errorf("%s: %v, not %v", what, got, want)
	}
}

func TestP101Num(t *testing.T) {
	for _, c := range []struct {
		what  string
		v     uint64
		n     int
		bytes string
		err   api.Errno
	}{
		{"0 in one", 0, 1, "\x00", api.OK},
		{"255 in one", 255, 1, "\xff", api.OK},
		{"256 in one", 256, 1, "", api.ErrArg},
		{"lowest first", 0x0102, 2, "\x02\x01", api.OK},
		{"bytes 0 behind", 7, 4, "\x07\x00\x00\x00", api.OK},
		{"all of seven", 1<<56 - 1, 7, "\xff\xff\xff\xff\xff\xff\xff", api.OK},
		{"too much for seven", 1 << 56, 7, "", api.ErrArg},
		{"eight", 0x0807060504030201, 8, "\x01\x02\x03\x04\x05\x06\x07\x08", api.OK},
		{"all of eight", math.MaxUint64, 8, "\xff\xff\xff\xff\xff\xff\xff\xff", api.OK},
		{"no bytes", 0, 0, "", api.ErrArg},
		{"nine", 0, 9, "", api.ErrArg},
		{"below 0", 0, -1, "", api.ErrArg},
		{"least n", 0, math.MinInt, "", api.ErrArg},
		{"greatest n", 0, math.MaxInt, "", api.ErrArg},
	} {
		wants(t, "Num: "+c.what, new(Writer).Num(c.v, c.n), c.bytes, c.err)
	}
	for n := 1; n < 8; n++ {
		limit := uint64(1) << (8 * n)
		wants(t, "Num: the last", new(Writer).Num(limit-1, n), strings.Repeat("\xff", n), api.OK)
		wants(t, "Num: the first that is too great", new(Writer).Num(limit, n), "", api.ErrArg)
	}
}

func TestP101Int(t *testing.T) {
	wants(t, "Int", new(Writer).Int(258), "\x02\x01\x00\x00\x00\x00\x00\x00", api.OK)
	wants(t, "Int below 0", new(Writer).Int(-2), "\xfe\xff\xff\xff\xff\xff\xff\xff", api.OK)
	wants(t, "least int", new(Writer).Int(math.MinInt), "\x00\x00\x00\x00\x00\x00\x00\x80", api.OK)
	wants(t, "greatest int", new(Writer).Int(math.MaxInt), "\xff\xff\xff\xff\xff\xff\xff\x7f", api.OK)
}

func TestP101Text(t *testing.T) {
	full := strings.Repeat("x", 60000)
	for _, c := range []struct {
		what  string
		s     string
		room  int
		bytes string
		err   api.Errno
	}{
		{"room left", "ab", 9, "\x02\x00ab", api.OK},
		{"just room", "ab", 2, "\x02\x00ab", api.OK},
		{"too long", "ab", 1, "", api.ErrLong},
		{"empty", "", 0, "\x00\x00", api.OK},
		{"no room", "a", 0, "", api.ErrLong},
		{"bytes of no text", "\x00\xff", 2, "\x02\x00\x00\xff", api.OK},
		{"greatest room", full, 60000, "\x60\xea" + full, api.OK},
		{"one above it", full + "x", 60000, "", api.ErrLong},
		{"room too great", "", 60001, "", api.ErrArg},
		{"room below 0", "", -1, "", api.ErrArg},
		{"ErrArg ahead of ErrLong", "a", -1, "", api.ErrArg},
		{"ErrArg ahead of ErrLong above", full + "xx", 60001, "", api.ErrArg},
	} {
		wants(t, "Text: "+c.what, new(Writer).Text(c.s, c.room), c.bytes, c.err)
	}
}

func TestP101Flag(t *testing.T) {
	wants(t, "Flag", new(Writer).Flag(true).Flag(false), "\x01\x00", api.OK)
}

func TestP101Pad(t *testing.T) {
	three := func() *Writer { return new(Writer).Text("a", 1) }
	wants(t, "bytes 0 up to n", three().Pad(5), "\x01\x00a\x00\x00", api.OK)
	wants(t, "just n already", three().Pad(3), "\x01\x00a", api.OK)
	wants(t, "more already", three().Pad(2), "", api.ErrLong)
	wants(t, "twice", three().Pad(4).Pad(5), "\x01\x00a\x00\x00", api.OK)
	wants(t, "goes on behind", three().Pad(4).Flag(true), "\x01\x00a\x00\x01", api.OK)
	wants(t, "none of none", new(Writer).Pad(0), "", api.OK)
	wants(t, "below 0", new(Writer).Pad(-1), "", api.ErrLong)
	wants(t, "least", new(Writer).Pad(math.MinInt), "", api.ErrLong)
	wants(t, "the most", new(Writer).Pad(60000), strings.Repeat("\x00", 60000), api.OK)
	wants(t, "one above it", new(Writer).Pad(60001), "", api.ErrArg)
	wants(t, "greatest", new(Writer).Pad(math.MaxInt), "", api.ErrArg)
	long := new(Writer).Pad(60000).Num(1, 8)
	wants(t, "ErrArg ahead of all", long.Pad(60001), "", api.ErrArg)
}

func TestP101Bytes(t *testing.T) {
	w := new(Writer)
	wants(t, "a zero one", w, "", api.OK)
	wants(t, "the example", w.Num(258, 2).Text("a", 9).Flag(true), "\x02\x01\x01\x00a\x01", api.OK)
	wants(t, "asked again", w, "\x02\x01\x01\x00a\x01", api.OK)
	wants(t, "goes on", w.Num(9, 1), "\x02\x01\x01\x00a\x01\x09", api.OK)
	more := new(Writer)
	for i := range 100000 {
		more.Num(uint64(i%256), 1)
	}
	all, err := more.Bytes()
	is(t, "many: error", err, api.OK)
	is(t, "many: length", len(all), 100000)
	for i := range len(all) {
		if all[i] != byte(i) {
			t.Fatalf("many: byte %d is %d", i, all[i])
		}
	}
}

func TestP101FirstErrorStays(t *testing.T) {
	long := func() *Writer { return new(Writer).Num(1, 1).Text("ab", 1) }
	wants(t, "Num", long().Num(1, 9), "", api.ErrLong)
	wants(t, "Num that fits", long().Num(1, 1), "", api.ErrLong)
	wants(t, "Int", long().Int(1), "", api.ErrLong)
	wants(t, "Text", long().Text("", -1), "", api.ErrLong)
	wants(t, "Text that fits", long().Text("", 1), "", api.ErrLong)
	wants(t, "Flag", long().Flag(true), "", api.ErrLong)
	wants(t, "Pad", long().Pad(60001), "", api.ErrLong)
	wants(t, "Pad that fits", long().Pad(60000), "", api.ErrLong)
	wants(t, "ErrArg first", new(Writer).Num(1, 0).Text("ab", 1), "", api.ErrArg)
	wants(t, "ErrArg, then Pad", new(Writer).Num(1, 0).Pad(-1), "", api.ErrArg)
}

func TestP101AnswersItself(t *testing.T) {
	w := new(Writer)
	for range 2 {
		is(t, "Num", w.Num(1, 1), w)
		is(t, "Int", w.Int(1), w)
		is(t, "Text", w.Text("a", 1), w)
		is(t, "Flag", w.Flag(true), w)
		is(t, "Pad", w.Pad(100), w)
		w.Pad(60001) // and so behind an error
	}
	is(t, "Num in error", new(Writer).Num(1, 0) != nil, true)
}

func TestP101Copies(t *testing.T) {
	w := new(Writer).Num(1, 1).Num(2, 1).Num(3, 1)
	twin := *w
	w.Num(4, 1)
	twin.Num(5, 1)
	later := *w
	*w = twin
	w.Num(6, 1)
	later.Num(7, 1)
	twin.Num(0, 0)
	wants(t, "the first", w, "\x01\x02\x03\x05\x06", api.OK)
	wants(t, "a later copy", &later, "\x01\x02\x03\x04\x07", api.OK)
	wants(t, "a copy in error", &twin, "", api.ErrArg)
}

func TestP102Num(t *testing.T) {
	for _, c := range []struct {
		what string
		b    string
		n    int
		v    uint64
		err  api.Errno
	}{
		{"lowest first", "\x02\x01\xff", 2, 258, api.OK},
		{"one", "\xff", 1, 255, api.OK},
		{"eight", "\x01\x02\x03\x04\x05\x06\x07\x08", 8, 0x0807060504030201, api.OK},
		{"all of eight", "\xff\xff\xff\xff\xff\xff\xff\xff", 8, math.MaxUint64, api.OK},
		{"one byte short", "\x01", 2, 0, api.ErrShort},
		{"no bytes", "", 1, 0, api.ErrShort},
		{"n 0", "abc", 0, 0, api.ErrArg},
		{"n 9", "abcdefghijk", 9, 0, api.ErrArg},
		{"n below 0", "abc", -1, 0, api.ErrArg},
		{"ErrArg ahead of ErrShort", "", 9, 0, api.ErrArg},
		{"least n", "abc", math.MinInt, 0, api.ErrArg},
		{"greatest n", "abc", math.MaxInt, 0, api.ErrArg},
	} {
		r := NewReader(c.b)
		is(t, "Num: "+c.what, r.Num(c.n), c.v)
		is(t, "Num: error: "+c.what, r.Err(), c.err)
	}
	r := NewReader("\x01\x02\x03")
	is(t, "the first", r.Num(1), 1)
	is(t, "the next ones", r.Num(2), 0x0302)
	is(t, "all read", r.End(), api.OK)
}

func TestP102Int(t *testing.T) {
	r := NewReader("\xfe\xff\xff\xff\xff\xff\xff\xff\x02\x01\x00\x00\x00\x00\x00\x00\x01\x02\x03\x04\x05\x06\x07")
	is(t, "below 0", r.Int(), -2)
	is(t, "above 0", r.Int(), 258)
	is(t, "seven bytes", r.Int(), 0)
	is(t, "their error", r.Err(), api.ErrShort)
}

func TestP102Text(t *testing.T) {
	full := strings.Repeat("y", 60000)
	for _, c := range []struct {
		what string
		b    string
		room int
		s    string
		err  api.Errno
	}{
		{"room left", "\x02\x00abc", 9, "ab", api.OK},
		{"just room", "\x02\x00ab", 2, "ab", api.OK},
		{"empty", "\x00\x00", 0, "", api.OK},
		{"greatest", "\x60\xea" + full, 60000, full, api.OK},
		{"above it", "\x61\xea" + full + "y", 60000, "", api.ErrLong},
		{"too long", "\x02\x00ab", 1, "", api.ErrLong},
		{"ErrLong ahead of its bytes", "\x02\x00", 1, "", api.ErrLong},
		{"its bytes are short", "\x02\x00a", 2, "", api.ErrShort},
		{"its length is short", "\x02", 9, "", api.ErrShort},
		{"short ahead of ErrLong", "\x02", 0, "", api.ErrShort},
		{"nothing", "", 9, "", api.ErrShort},
		{"room below 0", "\x00\x00", -1, "", api.ErrArg},
		{"room too great", "\x00\x00", 60001, "", api.ErrArg},
		{"ErrArg ahead of ErrShort", "", 60001, "", api.ErrArg},
	} {
		r := NewReader(c.b)
		is(t, "Text: "+c.what, r.Text(c.room), c.s)
		is(t, "Text: error: "+c.what, r.Err(), c.err)
	}
	r := NewReader("\x01\x00a\x02\x00bc\x09")
	is(t, "first", r.Text(1), "a")
	is(t, "second", r.Text(2), "bc")
	is(t, "behind them", r.Num(1), 9)
}

func TestP102Flag(t *testing.T) {
	r := NewReader("\x01\x00\x02")
	is(t, "1", r.Flag(), true)
	is(t, "0", r.Flag(), false)
	is(t, "no error", r.Err(), api.OK)
	is(t, "2", r.Flag(), false)
	is(t, "its error", r.Err(), api.ErrForm)
	r = NewReader("\xff")
	is(t, "255", r.Flag(), false)
	is(t, "its error", r.Err(), api.ErrForm)
	r = NewReader("")
	is(t, "none", r.Flag(), false)
	is(t, "its error", r.Err(), api.ErrShort)
}

func TestP102Skip(t *testing.T) {
	for _, c := range []struct {
		what string
		b    string
		n    int
		err  api.Errno
	}{
		{"bytes 0", "\x00\x00\x07", 2, api.OK},
		{"none", "\x07", 0, api.OK},
		{"the last is not 0", "\x00\x07\x07", 2, api.ErrForm},
		{"the first is not 0", "\x01\x00\x07", 2, api.ErrForm},
		{"short", "\x00\x00", 3, api.ErrShort},
		{"ErrShort ahead of ErrForm", "\x00\x01", 3, api.ErrShort},
		{"below 0", "\x00\x00", -1, api.ErrArg},
		{"least", "\x00\x00", math.MinInt, api.ErrArg},
		{"greatest", "\x00\x00", math.MaxInt, api.ErrShort},
	} {
		r := NewReader(c.b)
		r.Skip(c.n)
		is(t, "Skip: error: "+c.what, r.Err(), c.err)
		if c.err == api.OK {
			is(t, "Skip: behind: "+c.what, r.Num(1), 7)
		}
	}
}

func TestP102Count(t *testing.T) {
	for _, c := range []struct {
		what string
		b    string
		most int
		n    int
		err  api.Errno
	}{
		{"just as many", "\x05\x00", 5, 5, api.OK},
		{"fewer", "\x05\x00", 6, 5, api.OK},
		{"one above", "\x05\x00", 4, 0, api.ErrLong},
		{"none", "\x00\x00", 0, 0, api.OK},
		{"none, most below 0", "\x00\x00", -1, 0, api.ErrLong},
		{"all", "\xff\xff", 65535, 65535, api.OK},
		{"greatest most", "\xff\xff", math.MaxInt, 65535, api.OK},
		{"short", "\x05", 9, 0, api.ErrShort},
		{"ErrShort ahead of ErrLong", "\x05", -1, 0, api.ErrShort},
	} {
		r := NewReader(c.b)
		is(t, "Count: "+c.what, r.Count(c.most), c.n)
		is(t, "Count: error: "+c.what, r.Err(), c.err)
	}
	r := NewReader("\x01\x02\x09")
	is(t, "two bytes", r.Count(999), 0x0201)
	is(t, "behind them", r.Num(1), 9)
}

func TestP102FirstErrorStays(t *testing.T) {
	for _, first := range []struct {
		fail func(r *Reader)
		err  api.Errno
	}{
		{func(r *Reader) { r.Num(0) }, api.ErrArg},
		{func(r *Reader) { r.Skip(90) }, api.ErrShort},
		{func(r *Reader) { r.Count(0) }, api.ErrLong},
		{func(r *Reader) { r.Skip(1) }, api.ErrForm},
		{func(r *Reader) { r.Text(60001) }, api.ErrArg},
	} {
		r := NewReader("\x01\x00\x01\x00\x01\x00\x01\x00\x01\x00\x01\x00")
		first.fail(r)
		for range 2 {
			is(t, "Num", r.Num(1), 0)
			is(t, "Num of none", r.Num(9), 0)
			is(t, "Int", r.Int(), 0)
			is(t, "Text", r.Text(9), "")
			is(t, "Text of no room", r.Text(-1), "")
			is(t, "Flag", r.Flag(), false)
			is(t, "Count", r.Count(9), 0)
			is(t, "Count of none", r.Count(-1), 0)
			r.Skip(-1)
			r.Skip(99)
			is(t, "Err", r.Err(), first.err)
			is(t, "End", r.End(), first.err)
		}
	}
}

func TestP102End(t *testing.T) {
	is(t, "nothing", NewReader("").End(), api.OK)
	is(t, "bytes 0", NewReader("\x00\x00").End(), api.OK)
	is(t, "the last is not 0", NewReader("\x00\x01").End(), api.ErrForm)
	is(t, "the first is not 0", NewReader("\x01\x00").End(), api.ErrForm)
	r := NewReader("\x00\x05\x00")
	is(t, "told", r.End(), api.ErrForm)
	is(t, "does not stay", r.Err(), api.OK)
	is(t, "nothing was read", r.Num(1), 0)
	is(t, "told again", r.End(), api.ErrForm)
	is(t, "goes on", r.Num(1), 5)
	is(t, "bytes 0 may be left", r.End(), api.OK)
	is(t, "and be read", r.Num(1), 0)
	is(t, "all was read", r.End(), api.OK)
}

func TestP102Copies(t *testing.T) {
	r := NewReader("\x01\x02")
	twin := *r
	r.Num(9)
	is(t, "a copy", twin.Num(1), 1)
	other := twin
	is(t, "a copy of it", other.Num(1), 2)
	is(t, "it goes on", twin.Num(1), 2)
	is(t, "the first", r.Err(), api.ErrArg)
}

func TestP103Digits(t *testing.T) {
	for _, c := range []struct {
		v int
		s string
	}{
		{0, "0"}, {7, "7"}, {-7, "-7"}, {10, "10"}, {-50, "-50"}, {1000000000000000000, "1000000000000000000"},
		{math.MaxInt, "9223372036854775807"}, {math.MinInt, "-9223372036854775808"},
	} {
		is(t, "Digits", Digits(c.v), c.s)
	}
}

func TestP103Number(t *testing.T) {
	for _, c := range []struct {
		s string
		v int
	}{
		{"0", 0}, {"9", 9}, {"-9", -9}, {"10", 10}, {"-120", -120}, {"1234567890", 1234567890},
		{"999999999999999999", 999999999999999999}, {"-999999999999999999", -999999999999999999}, {"100000000000000000", 100000000000000000},
	} {
		v, err := Number(c.s)
		is(t, "Number: "+c.s, v, c.v)
		is(t, "Number: error: "+c.s, err, api.OK)
		is(t, "there and back", Digits(v), c.s)
	}
	for _, s := range []string{
		"", "-", "-0", "00", "01", "-01", "000000000000000000", "+1", "--1", "1-", "1x", "x1", "1 ", " 1", "1.0", "1_0", "0x1", "1\x00",
		"/", ":", "\u0661", "\xff", "1000000000000000000", "-1000000000000000000", "0999999999999999999", strings.Repeat("9", 1000),
	} {
		v, err := Number(s)
		is(t, "no Number: "+s, v, 0)
		is(t, "no Number: error: "+s, err, api.ErrArg)
	}
}

func TestP104ThereAndBack(t *testing.T) {
	seed := uint64(1)
	next := func(below int) int {
		seed = seed*6364136223846793005 + 1442695040888963407
		return int(seed>>33) % below
	}
	for range 300 {
		w := new(Writer)
		var checks []func(r *Reader)
		for range next(30) {
			checks = append(checks, putAny(t, w, next))
		}
		b, err := w.Bytes()
		is(t, "put", err, api.OK)
		r := NewReader(b)
		for _, check := range checks {
			check(r)
		}
		is(t, "all was read", r.End(), api.OK)
		is(t, "and no more is there", r.Num(1), 0)
		is(t, "nothing is left", r.Err(), api.ErrShort)
	}
}

// putAny puts one thing, and answers what holds the same call of a Reader against it.
func putAny(t *testing.T, w *Writer, next func(int) int) func(r *Reader) {
	switch next(5) {
	case 0:
		n := 1 + next(8)
		v := uint64(next(1<<31)) << 33 >> uint(64-8*n)
		w.Num(v, n)
		return func(r *Reader) { is(t, "Num", r.Num(n), v) }
	case 1:
		v := next(1<<31)*next(1<<31) - 1<<60
		w.Int(v)
		return func(r *Reader) { is(t, "Int", r.Int(), v) }
	case 2:
		s := strings.Repeat(string([]byte{byte(next(256)), 'a'}), next(40))
		room := len(s) + next(3)
		w.Text(s, room)
		return func(r *Reader) { is(t, "Text", r.Text(room), s) }
	case 3:
		v := next(2) == 1
		w.Flag(v)
		return func(r *Reader) { is(t, "Flag", r.Flag(), v) }
	}
	before, _ := w.Bytes()
	more := next(20)
	w.Pad(len(before) + more)
	return func(r *Reader) { r.Skip(more); is(t, "Skip", r.Err(), api.OK) }
}

func TestP104None(t *testing.T) {
	var w *Writer
	is(t, "Num", w.Num(1, 1), nil)
	is(t, "Num of none", w.Num(1, 0), nil)
	is(t, "Int", w.Int(1), nil)
	is(t, "Text", w.Text("a", 1), nil)
	is(t, "Flag", w.Flag(true), nil)
	is(t, "Pad", w.Pad(9), nil)
	wants(t, "Bytes", w, "", api.ErrArg)

	var zero Reader
	is(t, "zero: End", zero.End(), api.OK)
	is(t, "zero: Err", zero.Err(), api.OK)
	zero.Skip(0)
	is(t, "zero: Skip", zero.Err(), api.OK)
	is(t, "zero: Num", zero.Num(1), 0)
	is(t, "zero: no bytes", zero.Err(), api.ErrShort)

	var r *Reader
	r.Skip(1)
	r.Skip(-1)
	is(t, "nil: Num", r.Num(1), 0)
	is(t, "nil: Int", r.Int(), 0)
	is(t, "nil: Text", r.Text(1), "")
	is(t, "nil: Flag", r.Flag(), false)
	is(t, "nil: Count", r.Count(1), 0)
	is(t, "nil: Count of none", r.Count(-1), 0)
	is(t, "nil: Err", r.Err(), api.ErrArg)
	is(t, "nil: End", r.End(), api.ErrArg)
}
