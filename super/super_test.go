package super

import (
	"hash/crc32"
	"math"
	"strings"
	"testing"

	"commons/api"
	"commons/sdisk"
)

// is holds one answer against what is wanted.
func is[T comparable](t *testing.T, what string, got, want T) {
	t.Helper()
	if got != want {
		t.Errorf("%s: %v, not %v", what, got, want)
	}
}

func shape(nodes, blocks, log, cache, lease int) api.Shape {
	return api.Shape{Nodes: nodes, Blocks: blocks, Log: log, Cache: cache, Lease: lease}
}

func small() api.Shape { return shape(2, 10, 8, 2, 32) }

func least() api.Shape { return shape(1, 1, 8, 2, 32) }

func greatest() api.Shape { return shape(16, 4096, 256, 1000, 1000) }

// edge is one number of a shape, and what it may be.
type edge struct {
	name        string
	least, most int
	at          func(*api.Shape) *int
}

func edges() []edge {
	return []edge{
		{"Nodes", 1, 16, func(s *api.Shape) *int { return &s.Nodes }},
		{"Blocks", 1, 4096, func(s *api.Shape) *int { return &s.Blocks }},
		{"Log", 8, 256, func(s *api.Shape) *int { return &s.Log }},
		{"Cache", 2, 1000, func(s *api.Shape) *int { return &s.Cache }},
		{"Lease", 32, 1000, func(s *api.Shape) *int { return &s.Lease }},
	}
}

// wrongs tells numbers that are not from least to most, also such as are when they are cut to 32 bits.
func (e edge) wrongs() []int {
	return []int{e.least - 1, e.most + 1, 0, -1, -e.least, e.least + 1<<32, e.most + 1<<8, e.most + 1<<32, e.least - 1<<32, math.MinInt, math.MaxInt, math.MinInt + e.least}
}

// wrongShapes tells shapes in which one number is wrong, in each of several good ones; and one of none.
func wrongShapes() []api.Shape {
	l := []api.Shape{{}}
	for _, good := range []api.Shape{least(), small(), greatest()} {
		for _, e := range edges() {
			for _, v := range e.wrongs() {
				s := good
				*e.at(&s) = v
				l = append(l, s)
			}
		}
	}
	return l
}

// goodShapes tells shapes in which each number is at an edge or between, in turns.
func goodShapes() []api.Shape {
	l := []api.Shape{least(), small(), greatest(), shape(1, 3, 9, 2, 32), shape(1, 11, 9, 2, 32)}
	for _, good := range []api.Shape{least(), small(), greatest()} {
		for _, e := range edges() {
			for _, v := range []int{e.least, e.least + 1, (e.least + e.most) / 2, e.most - 1, e.most} {
				s := good
				*e.at(&s) = v
				l = append(l, s)
			}
		}
	}
	return l
}

// laid lays a superblock by hand: a mark, numbers in 4 bytes each, and what stands behind them.
func laid(mark string, behind string, numbers ...uint32) string {
	b := []byte(mark)
	for _, v := range numbers {
		b = append(b, byte(v), byte(v>>8), byte(v>>16), byte(v>>24))
	}
	return stamped(string(b) + behind)
}

// stamped makes a text up to a sector, with its sum at the end.
func stamped(text string) string {
	b := append([]byte(text), make([]byte, 60-len(text))...)
	x := crc32.ChecksumIEEE(b)
	return string(append(b, byte(x), byte(x>>8), byte(x>>16), byte(x>>24)))
}

func laidOf(s api.Shape) string {
	return laid("COMMONS1", "", uint32(s.Nodes), uint32(s.Blocks), uint32(s.Log), uint32(s.Cache), uint32(s.Lease))
}

func fill(c string, sectors int) string { return strings.Repeat(c, sectors*api.Sector) }

// all reads every sector.
func all(t *testing.T, d *sdisk.Disk) string {
	t.Helper()
	var b strings.Builder
	for at := range d.Sectors() {
		s, e := d.Read(at, 1)
		is(t, "Read of one", e, api.OK)
		b.WriteString(s)
	}
	return b.String()
}

// state is all that can be asked of a disk.
type state struct {
	on      bool
	last    uint64
	epochs  [api.MaxNodes + 1]uint64
	words   [api.MaxNodes + 1]uint64
	waiting [api.MaxNodes + 1]int
	text    string // what is read
	lasting string // what is read behind a Cut
}

func stateOf(t *testing.T, d *sdisk.Disk) state {
	t.Helper()
	s := state{on: d.On(), last: d.Last()}
	for node := range api.MaxNodes + 1 {
		s.epochs[node], s.words[node], s.waiting[node] = d.Epoch(node), d.Word(node), d.Waiting(node)
	}
	if s.on {
		s.text = all(t, d)
	}
	x := d.Twin()
	x.Cut()
	x.Restore()
	s.lasting = all(t, x)
	return s
}

// used is a disk on which several nodes wrote all sectors, some of which wait still.
func used(t *testing.T, sectors int) *sdisk.Disk {
	t.Helper()
	d := sdisk.New(sectors)
	for node := range api.MaxNodes + 1 {
		is(t, "Admit", d.Admit(node, uint64(10+node)), api.OK)
		is(t, "Put", d.Put(node, uint64(100+node)), api.OK)
	}
	for at := range sectors {
		is(t, "Write", d.Write(3, 13, at, fill("o", 1)), api.OK)
	}
	is(t, "Barrier", d.Barrier(3, 13), api.OK)
	for at := range sectors {
		node := at % (api.MaxNodes + 1)
		is(t, "Write", d.Write(node, uint64(10+node), at, fill("n", 1)), api.OK)
	}
	is(t, "Fence", d.Fence(5), api.OK)
	return d
}

// refuses holds that Format tells an error, and changes nothing.
func refuses(t *testing.T, what string, d *sdisk.Disk, s api.Shape, want api.Errno) {
	t.Helper()
	before := stateOf(t, d)
	is(t, what, Format(d, s), want)
	is(t, what+": nothing is changed", stateOf(t, d) == before, true)
}

// loads holds that Load tells an error, and no layout.
func loads(t *testing.T, what string, d *sdisk.Disk, want api.Errno) {
	t.Helper()
	l, e := Load(d)
	is(t, what, e, want)
	is(t, what+": the layout", l, Layout{})
}

func TestP901Valid(t *testing.T) {
	for _, s := range goodShapes() {
		if !Valid(s) {
			t.Errorf("Valid of %v: false", s)
		}
	}
	for _, s := range wrongShapes() {
		if Valid(s) {
			t.Errorf("Valid of %v: true", s)
		}
	}
}

// TestP901ValidAll asks each number from below its least to above its most.
func TestP901ValidAll(t *testing.T) {
	for _, e := range edges() {
		for v := e.least - 50; v <= e.most+50; v++ {
			s := small()
			*e.at(&s) = v
			if got, want := Valid(s), v >= e.least && v <= e.most; got != want {
				t.Errorf("Valid with %s %d: %v", e.name, v, got)
			}
		}
	}
}

func TestP901Size(t *testing.T) {
	is(t, "the example", Size(small()), 37)
	is(t, "the least", Size(least()), 1+8+2)
	is(t, "the greatest", Size(greatest()), 1+16*256+2*4096)
	for _, s := range goodShapes() {
		is(t, "Size", Size(s), 1+s.Nodes*s.Log+2*s.Blocks)
	}
	for _, s := range wrongShapes() {
		is(t, "Size of one that is not valid", Size(s), 0)
	}
}

func TestP902Put(t *testing.T) {
	b, e := Put(shape(0x3, 0x0506, 0x0102, 0x0304, 0x0203))
	is(t, "Put of a log that is too long", e, api.ErrArg)
	is(t, "its bytes", b, "")
	b, e = Put(shape(3, 0x0506, 0xfe, 0x0302, 0x0203))
	is(t, "Put", e, api.OK)
	is(t, "its bytes", b, stamped("COMMONS1\x03\x00\x00\x00\x06\x05\x00\x00\xfe\x00\x00\x00\x02\x03\x00\x00\x03\x02\x00\x00"))
	for _, s := range goodShapes() {
		b, e := Put(s)
		is(t, "Put", e, api.OK)
		is(t, "how many bytes", len(b), 64)
		is(t, "the bytes", b, laidOf(s))
	}
	for _, s := range wrongShapes() {
		b, e := Put(s)
		is(t, "Put of one that is not valid", e, api.ErrArg)
		is(t, "its bytes", b, "")
	}
}

func TestP902Get(t *testing.T) {
	for _, s := range goodShapes() {
		got, e := Get(laidOf(s))
		is(t, "Get", e, api.OK)
		is(t, "the shape", got, s)
	}
}

// gets holds that Get tells an error, and no shape.
func gets(t *testing.T, what, b string, want api.Errno) {
	t.Helper()
	s, e := Get(b)
	is(t, what, e, want)
	is(t, what+": the shape", s, api.Shape{})
}

func TestP902GetShort(t *testing.T) {
	good := laidOf(small())
	long := good + fill("\x00", 3)
	for n := range len(long) {
		if n != 64 {
			gets(t, "other than 64 bytes", long[:n], api.ErrShort)
		}
	}
	gets(t, "two of them", good+good, api.ErrShort)
	gets(t, "a byte 0 behind", good+"\x00", api.ErrShort)
	gets(t, "a byte ahead", "C"+good, api.ErrShort)
	gets(t, "a good stamp of 63 bytes", good[:59]+good[60:], api.ErrShort)
	gets(t, "none", "", api.ErrShort)
}

func TestP902GetSum(t *testing.T) {
	good := laidOf(small())
	for at := range len(good) {
		for bit := range 8 {
			b := []byte(good)
			b[at] ^= 1 << bit
			gets(t, "a bit is changed", string(b), api.ErrSum)
		}
	}
	gets(t, "bytes 0", fill("\x00", 1), api.ErrSum)
	gets(t, "bytes 255", fill("\xff", 1), api.ErrSum)
	gets(t, "another mark, a wrong sum", "X"+good[1:], api.ErrSum)
}

func TestP902GetForm(t *testing.T) {
	gets(t, "bytes 0, and their sum", stamped(""), api.ErrForm)
	for _, mark := range []string{"COMMONS0", "COMMONS2", "commons1", "XOMMONS1", "COMMONS\x00", "1SNOMMOC", "\x00\x00\x00\x00\x00\x00\x00\x00"} {
		gets(t, "another mark", laid(mark, "", 2, 10, 8, 2, 32), api.ErrForm)
	}
	gets(t, "a mark that is too short", laid("COMMONS", "", 2, 10, 8, 2, 32), api.ErrForm)
	gets(t, "a byte between", laid("COMMONS1\x00", "", 2, 10, 8, 2, 32), api.ErrForm)
	for at := range 32 {
		behind := []byte(strings.Repeat("\x00", 32))
		behind[at] = 1
		gets(t, "a byte behind", laid("COMMONS1", string(behind), 2, 10, 8, 2, 32), api.ErrForm)
	}
	gets(t, "no numbers", laid("COMMONS1", ""), api.ErrForm)
	gets(t, "four numbers", laid("COMMONS1", "", 2, 10, 8, 2), api.ErrForm)
	gets(t, "six numbers", laid("COMMONS1", "", 2, 10, 8, 2, 32, 1), api.ErrForm)
	for k := range 5 {
		for _, v := range []uint32{0, 4097, 1 << 16, 1 << 24, 1 << 31, math.MaxUint32} {
			numbers := []uint32{2, 10, 8, 2, 32}
			numbers[k] = v
			gets(t, "a number that may not be", laid("COMMONS1", "", numbers...), api.ErrForm)
		}
	}
	for _, s := range wrongShapes() {
		if fits(s) {
			gets(t, "a shape that is not valid", laidOf(s), api.ErrForm)
		}
	}
}

// fits tells whether each number goes into 4 bytes.
func fits(s api.Shape) bool {
	for _, e := range edges() {
		if v := *e.at(&s); v != int(uint32(v)) {
			return false
		}
	}
	return true
}

func TestP903LogAt(t *testing.T) {
	l := Layout{Shape: small()}
	for node, want := range map[int]int{1: 1, 2: 9} {
		at, e := l.LogAt(node)
		is(t, "LogAt's error", e, api.OK)
		is(t, "LogAt", at, want)
	}
	for _, s := range goodShapes() {
		for node := 1; node <= s.Nodes; node++ {
			at, e := Layout{Shape: s}.LogAt(node)
			is(t, "LogAt's error", e, api.OK)
			is(t, "LogAt", at, 1+(node-1)*s.Log)
		}
		for _, node := range []int{0, -1, s.Nodes + 1, 17, math.MaxInt, math.MinInt, 1 + 1<<32} {
			at, e := Layout{Shape: s}.LogAt(node)
			is(t, "LogAt of none: the error", e, api.ErrIndex)
			is(t, "LogAt of none", at, 0)
		}
	}
}

func TestP903BlockAt(t *testing.T) {
	l := Layout{Shape: small()}
	for block, want := range map[int]int{0: 17, 1: 19, 9: 35} {
		at, e := l.BlockAt(block)
		is(t, "BlockAt's error", e, api.OK)
		is(t, "BlockAt", at, want)
	}
	for _, s := range goodShapes() {
		for block := range s.Blocks {
			at, e := Layout{Shape: s}.BlockAt(block)
			is(t, "BlockAt's error", e, api.OK)
			is(t, "BlockAt", at, 1+s.Nodes*s.Log+2*block)
		}
		for _, block := range []int{-1, s.Blocks, s.Blocks + 1, 4096, math.MaxInt, math.MinInt, 1 << 32} {
			at, e := Layout{Shape: s}.BlockAt(block)
			is(t, "BlockAt of none: the error", e, api.ErrRange)
			is(t, "BlockAt of none", at, 0)
		}
	}
}

func TestP903NotValid(t *testing.T) {
	for _, s := range wrongShapes() {
		for _, v := range []int{-1, 0, 1, 17, 4096, math.MaxInt, math.MinInt} {
			at, e := Layout{Shape: s}.LogAt(v)
			is(t, "LogAt's error", e, api.ErrArg)
			is(t, "LogAt", at, 0)
			at, e = Layout{Shape: s}.BlockAt(v)
			is(t, "BlockAt's error", e, api.ErrArg)
			is(t, "BlockAt", at, 0)
		}
	}
}

func TestP904Format(t *testing.T) {
	for _, more := range []int{0, 1, 20} {
		d := used(t, 37+more)
		is(t, "Format", Format(d, small()), api.OK)
		is(t, "Last is one more", d.Last(), 10+api.MaxNodes+1)
		for node := range api.MaxNodes + 1 {
			is(t, "Epoch", d.Epoch(node), 0)
			is(t, "Word", d.Word(node), 0)
			is(t, "Waiting", d.Waiting(node), 0)
		}
		want := laidOf(small()) + fill("\x00", 36) + fill("n", more)
		is(t, "what is read", all(t, d) == want, true)
		d.Cut()
		d.Restore()
		is(t, "what lasts", all(t, d) == want, true)
		l, e := Load(d)
		is(t, "Load", e, api.OK)
		is(t, "the layout", l, Layout{Shape: small()})
		is(t, "the epoch is used up", d.Admit(1, 27), api.ErrDup)
	}
}

func TestP904FormatOfAll(t *testing.T) {
	for _, s := range goodShapes() {
		d := sdisk.New(Size(s))
		is(t, "Format", Format(d, s), api.OK)
		is(t, "Last", d.Last(), 1)
		l, e := Load(d)
		is(t, "Load", e, api.OK)
		is(t, "the layout", l, Layout{Shape: s})
	}
}

// TestP904FormatAgain has one array in the place of another one, by turns greater and smaller.
func TestP904FormatAgain(t *testing.T) {
	d := used(t, Size(greatest()))
	for k, s := range []api.Shape{small(), greatest(), least(), shape(3, 7, 9, 11, 50)} {
		is(t, "Format", Format(d, s), api.OK)
		is(t, "Last", d.Last(), uint64(27+k))
		l, e := Load(d)
		is(t, "Load", e, api.OK)
		is(t, "the layout", l, Layout{Shape: s})
	}
}

func TestP904FormatErrors(t *testing.T) {
	for _, s := range append(wrongShapes(), small()) {
		is(t, "no disk", Format(nil, s), api.ErrArg)
	}
	for _, sectors := range []int{1, 36, 37, 60} {
		d := used(t, sectors)
		for _, s := range wrongShapes() {
			is(t, "a shape that is not valid", Format(d, s), api.ErrArg)
		}
		refuses(t, "one of none", d, api.Shape{}, api.ErrArg)
		refuses(t, "too many nodes", d, shape(17, 10, 8, 2, 32), api.ErrArg)
	}
	for _, sectors := range []int{1, 16, 35, 36} {
		d := used(t, sectors)
		refuses(t, "too few sectors", d, small(), api.ErrRange)
		d.Cut()
		refuses(t, "too few sectors, without power", d, small(), api.ErrRange)
		refuses(t, "one of none, without power", d, api.Shape{}, api.ErrArg)
	}
	d := used(t, 37)
	d.Cut()
	refuses(t, "without power", d, small(), api.ErrOff)
	is(t, "a zero disk", Format(&sdisk.Disk{}, small()), api.ErrRange)
	is(t, "a zero disk, and a shape that is not valid", Format(&sdisk.Disk{}, api.Shape{}), api.ErrArg)
}

// TestP904FormatIsArmed has a call that is refused ahead of the disk use up nothing of what is armed.
func TestP904FormatIsArmed(t *testing.T) {
	d := used(t, 36)
	d.Arm(0)
	is(t, "too few sectors", Format(d, small()), api.ErrRange)
	is(t, "a shape that is not valid", Format(d, api.Shape{}), api.ErrArg)
	is(t, "there is power", d.On(), true)
	is(t, "the next one", d.Put(1, 1), api.ErrOff)
}

// TestP904NoEpoch has no epoch above the greatest one: what comes ahead of Admit is done.
func TestP904NoEpoch(t *testing.T) {
	d := used(t, 37)
	is(t, "Admit", d.Admit(1, math.MaxUint64), api.OK)
	is(t, "Put", d.Put(1, 7), api.OK)
	before := all(t, d)
	is(t, "Format", Format(d, small()), api.ErrDup)
	is(t, "nothing is written", all(t, d) == before, true)
	is(t, "Last", d.Last(), math.MaxUint64)
	for node := range api.MaxNodes + 1 {
		is(t, "Epoch", d.Epoch(node), 0)
		is(t, "Word", d.Word(node), 0)
	}

	d = used(t, 37)
	is(t, "Admit", d.Admit(1, math.MaxUint64-1), api.OK)
	is(t, "Format with the greatest epoch", Format(d, small()), api.OK)
	is(t, "Last", d.Last(), math.MaxUint64)
}

// keeps tells what a Cut may keep of n sectors.
func keeps(n int) [][]int {
	one, odd, even, late := make([]int, n), make([]int, n), make([]int, n), make([]int, n)
	for k := range n {
		one[k], odd[k], even[k] = 1, k%2, 1-k%2
		late[k] = k * 2 / n
	}
	return [][]int{nil, one, odd, even, late}
}

// older is a disk that has an array of another shape, with a node on it that wrote all of it.
func older(t *testing.T) *sdisk.Disk {
	t.Helper()
	d := used(t, 60)
	is(t, "Format", Format(d, shape(1, 20, 8, 2, 32)), api.OK)
	is(t, "Admit", d.Admit(1, 50), api.OK)
	is(t, "Put", d.Put(1, 7), api.OK)
	for at := 1; at < 49; at += 16 {
		is(t, "Write", d.Write(1, 50, at, fill("o", 16)), api.OK)
	}
	is(t, "Barrier", d.Barrier(1, 50), api.OK)
	return d
}

// TestP904PowerGoes has the power go at each of Format's calls, and Format go on from whatever is left.
func TestP904PowerGoes(t *testing.T) {
	for _, keep := range keeps(40) {
		for n, done := 0, false; !done; n++ {
			d := older(t)
			d.Arm(n, keep...)
			e := Format(d, small())
			done = e == api.OK
			if !done {
				is(t, "Format", e, api.ErrOff)
				is(t, "the power is gone", d.On(), false)
			}
			d.Cut()
			d.Restore()
			holdsHalf(t, d, older(t))
			is(t, "Format once more", Format(d, small()), api.OK)
			is(t, "what is read", all(t, d)[:Size(small())*api.Sector] == laidOf(small())+fill("\x00", 36), true)
			if t.Failed() {
				t.Fatal("calls", n, "keep", keep)
			}
		}
	}
}

// holdsHalf holds what a Format that came so far may have left of a disk: its steps one behind the
// other, and nothing of the older array where the superblock of the newer one stands.
func holdsHalf(t *testing.T, d, before *sdisk.Disk) {
	t.Helper()
	text, size := all(t, d), Size(small())*api.Sector
	is(t, "words behind epochs", d.Word(1) == 7 || d.Epoch(1) == 0, true)
	switch d.Last() {
	case 50:
		is(t, "nothing is written ahead of Admit", text == all(t, before), true)
	case 51:
		is(t, "the epoch", d.Epoch(1), 0)
		is(t, "the word", d.Word(1), 0)
	default:
		t.Errorf("Last: %d", d.Last())
	}
	if l, e := Load(d); e == api.OK && l.Shape == small() {
		is(t, "what stands behind the superblock", strings.Trim(text[api.Sector:size], "\x00"), "")
	}
	is(t, "what stands behind the array", text[size:], all(t, before)[size:])
}

// TestP904LastCalls has the power go at each of the last calls: the superblock's Write, its Barrier
// and the Fence of the node 0. What no Barrier made last is lost.
func TestP904LastCalls(t *testing.T) {
	calls := 0
	for done := false; !done; calls++ {
		d := older(t)
		d.Arm(calls)
		done = Format(d, small()) == api.OK
	}
	zeros := fill("\x00", Size(small()))
	for back, want := range []string{laidOf(small()) + zeros[api.Sector:], zeros, zeros} {
		d := older(t)
		d.Arm(calls - 2 - back)
		is(t, "Format", Format(d, small()), api.ErrOff)
		d.Restore()
		is(t, "what lasts", all(t, d)[:len(zeros)] == want, true)
	}
}

func TestP904Load(t *testing.T) {
	for _, more := range []int{0, 1, 100} {
		d := sdisk.New(37 + more)
		is(t, "Admit", d.Admit(4, 9), api.OK)
		is(t, "Write", d.Write(4, 9, 0, laidOf(small())), api.OK)
		before := stateOf(t, d)
		l, e := Load(d)
		is(t, "Load", e, api.OK)
		is(t, "the layout", l, Layout{Shape: small()})
		is(t, "nothing is changed", stateOf(t, d) == before, true)
	}
}

func TestP904LoadErrors(t *testing.T) {
	loads(t, "no disk", nil, api.ErrOff)
	loads(t, "a zero disk", &sdisk.Disk{}, api.ErrOff)
	loads(t, "bytes 0", sdisk.New(37), api.ErrCorrupt)
	for what, b := range map[string]string{
		"a wrong sum":        laidOf(small())[:63] + "x",
		"another mark":       laid("COMMONS2", "", 2, 10, 8, 2, 32),
		"not valid":          laid("COMMONS1", "", 0, 10, 8, 2, 32),
		"bytes 0, and a sum": stamped(""),
		"a byte behind":      laid("COMMONS1", "x", 2, 10, 8, 2, 32),
	} {
		d := sdisk.New(100)
		is(t, "Admit", d.Admit(0, 1), api.OK)
		is(t, "Write", d.Write(0, 1, 0, b), api.OK)
		before := stateOf(t, d)
		loads(t, what, d, api.ErrCorrupt)
		is(t, what+": nothing is changed", stateOf(t, d) == before, true)
	}
	for _, sectors := range []int{1, 2, 36} {
		d := sdisk.New(sectors)
		is(t, "Admit", d.Admit(0, 1), api.OK)
		is(t, "Write", d.Write(0, 1, 0, laidOf(small())), api.OK)
		loads(t, "too few sectors", d, api.ErrCorrupt)
		d.Cut(1)
		loads(t, "without power", d, api.ErrOff)
	}
}

// TestP905Apart lays each log and each block, and holds that they fill the disk behind the superblock.
func TestP905Apart(t *testing.T) {
	for _, s := range goodShapes() {
		l := Layout{Shape: s}
		taken := make([]int, Size(s))
		taken[0]++
		for node := 1; node <= s.Nodes; node++ {
			at, e := l.LogAt(node)
			is(t, "LogAt", e, api.OK)
			for k := range s.Log {
				taken[at+k]++
			}
		}
		for block := range s.Blocks {
			at, e := l.BlockAt(block)
			is(t, "BlockAt", e, api.OK)
			taken[at]++
			taken[at+1]++
		}
		for at, n := range taken {
			if n != 1 {
				t.Errorf("%v: %d stand in the sector %d", s, n, at)
			}
		}
	}
}

// TestGreatest goes to the end of the disk with the greatest shape.
func TestGreatest(t *testing.T) {
	d := sdisk.New(20000)
	is(t, "Format", Format(d, greatest()), api.OK)
	l, e := Load(d)
	is(t, "Load", e, api.OK)
	at, e := l.BlockAt(4095)
	is(t, "BlockAt's error", e, api.OK)
	is(t, "BlockAt", at, 12287)
	at, e = l.LogAt(16)
	is(t, "LogAt's error", e, api.OK)
	is(t, "LogAt", at, 1+15*256)
}
