package sum

import (
	"hash/crc32"
	"math"
	"strings"
	"testing"
	"unsafe"

	"commons/api"
)

// is holds one answer against what is wanted.
func is[T comparable](t *testing.T, what string, got, want T) {
	t.Helper()
	if got != want {
		t.Errorf("%s: %.40v, not %.40v", what, got, want)
	}
}

// tells holds a text and an error against what is wanted.
func tells(t *testing.T, what string, got string, e api.Errno, want string, wantErr api.Errno) {
	t.Helper()
	if got != want || e != wantErr {
		t.Errorf("%s: %.40q, %d, not %.40q, %d", what, got, e, want, wantErr)
	}
}

// opens holds what Open tells of b.
func opens(t *testing.T, what, b, want string, wantErr api.Errno) {
	t.Helper()
	got, e := Open(b)
	tells(t, "Open: "+what, got, e, want, wantErr)
}

// reads holds what Read tells of b.
func reads(t *testing.T, what, b, want string, wantErr api.Errno) {
	t.Helper()
	got, e := Read(b)
	tells(t, "Read: "+what, got, e, want, wantErr)
}

// texts are some of many lengths, with all bytes in them.
func texts() []string {
	all := make([]byte, 600)
	seed := uint32(1)
	for i := range all {
		seed = seed*1664525 + 1013904223
		all[i] = byte(seed >> 24)
	}
	l := []string{"", "\x00", "\x00\x00\x00\x00", "\xff\xff\xff\xff", "123456789", "\xc3\xa9", "\xff\xfe\x80"}
	for n := 1; n < 600; n += 37 {
		l = append(l, string(all[:n]), string(all[n:]))
	}
	return l
}

// slow is the sum, word by word as the document has it.
func slow(s string) uint32 {
	x := uint32(math.MaxUint32)
	for i := 0; i < len(s); i++ {
		x = x ^ uint32(s[i])
		for i := 0; i < 8; i++ {
			odd := x%2 == 1
			x = x / 2
			if odd {
				x = x ^ 0xedb88320
			}
		}
	}
	return x ^ math.MaxUint32
}

func TestP201Of(t *testing.T) {
	for _, c := range []struct {
		s string
		x uint32
	}{
		{"", 0}, {"123456789", 0xcbf43926}, {"a", 0xe8b7be43}, {"\x00", 0xd202ef8d}, {"\xff", 0xff000000},
		{"\x00\x00\x00\x00", 0x2144df1c}, {"\xff\xff\xff\xff", 0xffffffff}, {strings.Repeat("\x00", 32), 0x190a55ad},
	} {
		is(t, "Of", Of(c.s), c.x)
	}
	for b := range 256 {
		s := string([]byte{byte(b)})
		is(t, "Of one byte", Of(s), slow(s))
	}
	for _, s := range texts() {
		is(t, "Of", Of(s), slow(s))
		is(t, "Of, as others have it", Of(s), crc32.ChecksumIEEE([]byte(s)))
	}
}

func TestP201Parts(t *testing.T) {
	is(t, "none", Of(), 0)
	is(t, "a nil list", Of([]string(nil)...), 0)
	is(t, "empty ones", Of("", "", ""), 0)
	is(t, "two", Of("1234", "56789"), 0xcbf43926)
	is(t, "an empty one between", Of("1234", "", "56789"), 0xcbf43926)
	is(t, "empty ones around", Of("", "123456789", ""), 0xcbf43926)
	is(t, "one a byte", Of("1", "2", "3", "4", "5", "6", "7", "8", "9"), 0xcbf43926)
	is(t, "in another order", Of("56789", "1234") == 0xcbf43926, false)
	s := texts()[20]
	for i := range len(s) {
		is(t, "cut in two", Of(s[:i], s[i:]), slow(s))
	}
	l := []string{"12", "34", "", "56789"}
	is(t, "a list", Of(l...), 0xcbf43926)
	is(t, "the list stands", strings.Join(l, "|"), "12|34||56789")
}

func TestP202Seal(t *testing.T) {
	is(t, "lowest first", Seal("123456789"), "\x26\x39\xf4\xcb123456789")
	is(t, "of nothing", Seal(""), "\x00\x00\x00\x00")
	is(t, "of a byte 0", Seal("\x00"), "\x8d\xef\x02\xd2\x00")
	long := strings.Repeat("0123456789", 20000)
	x := slow(long)
	is(t, "of a long one", Seal(long), string([]byte{byte(x), byte(x >> 8), byte(x >> 16), byte(x >> 24)})+long)
}

func TestP202Open(t *testing.T) {
	opens(t, "ordinary", "\x26\x39\xf4\xcb123456789", "123456789", api.OK)
	opens(t, "of nothing", "\x00\x00\x00\x00", "", api.OK)
	opens(t, "no bytes", "", "", api.ErrShort)
	opens(t, "3 bytes", "\x00\x00\x00", "", api.ErrShort)
	opens(t, "a wrong sum of nothing", "\x01\x00\x00\x00", "", api.ErrSum)
	opens(t, "highest first", "\xcb\xf4\x39\x26123456789", "", api.ErrSum)
	opens(t, "sum at the end", "123456789\x26\x39\xf4\xcb", "", api.ErrSum)
	opens(t, "a byte more", "\x26\x39\xf4\xcb123456789x", "", api.ErrSum)
	opens(t, "a byte 0 more", "\x26\x39\xf4\xcb123456789\x00", "", api.ErrSum)
	opens(t, "a byte less", "\x26\x39\xf4\xcb12345678", "", api.ErrSum)
	opens(t, "other bytes", "hello, world", "", api.ErrSum)
	is(t, "new memory", shares(t, Open, Seal("abc")), false)
}

func TestP203Stamp(t *testing.T) {
	for _, c := range []struct {
		what string
		s    string
		n    int
		b    string
		err  api.Errno
	}{
		{"no room left", "123456789", 13, "123456789\x26\x39\xf4\xcb", api.OK},
		{"made up with bytes 0", "", 5, "\x00\x8d\xef\x02\xd2", api.OK},
		{"sum of the bytes 0, too", "", 8, "\x00\x00\x00\x00\x1c\xdf\x44\x21", api.OK},
		{"least", "", 4, "\x00\x00\x00\x00", api.OK},
		{"below it", "", 3, "", api.ErrArg},
		{"0", "", 0, "", api.ErrArg},
		{"below 0", "", -4, "", api.ErrArg},
		{"least of all", "", math.MinInt, "", api.ErrArg},
		{"too great", "", 60001, "", api.ErrArg},
		{"greatest of all", "", math.MaxInt, "", api.ErrArg},
		{"one byte too long", "abcd", 7, "", api.ErrLong},
		{"no room at all", "a", 4, "", api.ErrLong},
		{"longer than n", "123456789", 8, "", api.ErrLong},
		{"ErrArg ahead of ErrLong", "abcd", 3, "", api.ErrArg},
		{"ErrArg of what would not go in anyway", strings.Repeat("y", 70000), 60001, "", api.ErrArg},
		{"greatest, one byte too long", strings.Repeat("y", 59997), 60000, "", api.ErrLong},
	} {
		got, e := Stamp(c.s, c.n)
		tells(t, "Stamp: "+c.what, got, e, c.b, c.err)
	}
	for _, full := range []string{"", "y", strings.Repeat("y", 59996)} {
		text := full + strings.Repeat("\x00", 59996-len(full))
		b, e := Stamp(full, 60000)
		is(t, "greatest: error", e, api.OK)
		is(t, "greatest: bytes", len(b), 60000)
		is(t, "greatest: text", strings.HasPrefix(b, text), true)
		reads(t, "greatest", b, text, api.OK)
	}
}

func TestP203Read(t *testing.T) {
	reads(t, "ordinary", "123456789\x26\x39\xf4\xcb", "123456789", api.OK)
	reads(t, "with a byte 0", "\x00\x8d\xef\x02\xd2", "\x00", api.OK)
	reads(t, "of nothing", "\x00\x00\x00\x00", "", api.OK)
	reads(t, "no bytes", "", "", api.ErrShort)
	reads(t, "3 bytes", "\x00\x00\x00", "", api.ErrShort)
	reads(t, "a wrong sum of nothing", "\x00\x00\x00\x01", "", api.ErrSum)
	reads(t, "highest first", "123456789\xcb\xf4\x39\x26", "", api.ErrSum)
	reads(t, "sum ahead", "\x26\x39\xf4\xcb123456789", "", api.ErrSum)
	reads(t, "a byte 0 behind", "123456789\x26\x39\xf4\xcb\x00", "", api.ErrSum)
	reads(t, "a byte less", "123456789\x26\x39\xf4", "", api.ErrSum)
	reads(t, "64 bytes 0", strings.Repeat("\x00", 64), "", api.ErrSum)
	long := strings.Repeat("y", 70000)
	reads(t, "more than Stamp makes", long+Seal(long)[:4], long, api.OK)
	b, _ := Stamp("abc", 64)
	is(t, "new memory", shares(t, Read, b), false)
}

// shares tells whether what is told of b lies within its memory.
func shares(t *testing.T, tell func(string) (string, api.Errno), b string) bool {
	t.Helper()
	got, e := tell(b)
	is(t, "to be told", e, api.OK)
	at, from := uintptr(unsafe.Pointer(unsafe.StringData(got))), uintptr(unsafe.Pointer(unsafe.StringData(b)))
	return at >= from && at < from+uintptr(len(b))
}

func TestP204ThereAndBack(t *testing.T) {
	for _, s := range texts() {
		opens(t, "what was sealed", Seal(s), s, api.OK)
		opens(t, "sealed twice", Seal(Seal(s)), Seal(s), api.OK)
		for _, more := range []int{0, 1, 4, 60} {
			b, e := Stamp(s, len(s)+4+more)
			is(t, "Stamp: error", e, api.OK)
			is(t, "Stamp: bytes", len(b), len(s)+4+more)
			reads(t, "what was stamped", b, s+strings.Repeat("\x00", more), api.OK)
		}
	}
}

func TestP204OneByteChanged(t *testing.T) {
	for _, s := range []string{"", "\x00", "\x00\x00\x00\x00", "hello", strings.Repeat("\xff", 20)} {
		sealed := Seal(s)
		stamped, _ := Stamp(s, len(s)+9)
		for by := 1; by < 256; by++ {
			for i := range len(sealed) {
				opens(t, "one byte changed", changed(sealed, i, by), "", api.ErrSum)
			}
			for i := range len(stamped) {
				reads(t, "one byte changed", changed(stamped, i, by), "", api.ErrSum)
			}
		}
	}
}

// changed is b with its byte i turned by some bits.
func changed(b string, i, by int) string {
	return b[:i] + string([]byte{b[i] ^ byte(by)}) + b[i+1:]
}
