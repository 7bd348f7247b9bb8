package sdisk

import (
	"math"
	"slices"
	"strings"
	"testing"

	"commons/api"
)

// is holds one answer against what is wanted.
func is[T comparable](t *testing.T, what string, got, want T) {
	t.Helper()
	if got != want {
		t.Errorf("%s: %v, not %v", what, got, want)
	}
}

// lists holds a list against what is wanted; a nil one and an empty one are the same.
func lists[T comparable](t *testing.T, what string, got, want []T) {
	t.Helper()
	if !slices.Equal(got, want) {
		t.Errorf("%s: %v, not %v", what, got, want)
	}
}

// text has a sector of each letter of s; a dot is bytes 0.
func text(s string) string {
	var b strings.Builder
	for _, c := range []byte(s) {
		if c == '.' {
			c = 0
		}
		b.WriteString(strings.Repeat(string([]byte{c}), api.Sector))
	}
	return b.String()
}

// holds holds what is read from the first sector on against what is wanted, a letter a sector.
func holds(t *testing.T, what string, d *Disk, want string) {
	t.Helper()
	s, e := d.Read(0, len(want))
	is(t, what+": Read's error", e, api.OK)
	if s == text(want) {
		return
	}
	var got []byte
	for k := 0; k+api.Sector <= len(s); k += api.Sector {
		c := s[k]
		switch {
		case s[k:k+api.Sector] != strings.Repeat(s[k:k+1], api.Sector):
			c = '?'
		case c == 0:
			c = '.'
		}
		got = append(got, c)
	}
	t.Errorf("%s: %s (%d bytes), not %s", what, got, len(s), want)
}

// lasting cuts a twin, and holds what it has then against what is wanted.
func lasting(t *testing.T, what string, d *Disk, want string, keep ...int) {
	t.Helper()
	x := d.Twin()
	x.Cut(keep...)
	x.Restore()
	holds(t, what, x, want)
}

// writes writes a sector of each letter.
func writes(t *testing.T, d *Disk, node int, epoch uint64, at int, letters string) {
	t.Helper()
	is(t, "Write of "+letters, d.Write(node, epoch, at, text(letters)), api.OK)
}

// admitted makes a disk that admits epochs 1, 2 and 3 of the nodes 1, 2 and 0.
func admitted(t *testing.T, sectors int) *Disk {
	t.Helper()
	d := New(sectors)
	is(t, "Admit of 1", d.Admit(1, 1), api.OK)
	is(t, "Admit of 2", d.Admit(2, 2), api.OK)
	is(t, "Admit of the server", d.Admit(0, 3), api.OK)
	return d
}

// three has writes of two nodes, one over the other: seven sectors that wait, 0 to 3 (aaa), 1 to 4 (bbb), 2 (c).
func three(t *testing.T) *Disk {
	t.Helper()
	d := admitted(t, 6)
	writes(t, d, 1, 1, 0, "aaa")
	writes(t, d, 2, 2, 1, "bbb")
	writes(t, d, 1, 1, 2, "c")
	return d
}

// state is all that can be asked of a disk, without changing it.
type state struct {
	on      bool
	sectors int
	last    uint64
	epochs  [api.MaxNodes + 1]uint64
	words   [api.MaxNodes + 1]uint64
	waiting [api.MaxNodes + 1]int
	text    string
}

func stateOf(t *testing.T, d *Disk) state {
	t.Helper()
	s := state{on: d.On(), sectors: d.Sectors(), last: d.Last()}
	for node := range api.MaxNodes + 1 {
		s.epochs[node], s.words[node], s.waiting[node] = d.Epoch(node), d.Word(node), d.Waiting(node)
	}
	for at := 0; s.on && at < s.sectors; at++ {
		b, e := d.Read(at, 1)
		is(t, "Read of one", e, api.OK)
		s.text += b
	}
	if s.sectors > 0 {
		lists(t, "Table", d.Table(), s.epochs[:])
	}
	return s
}

// refuses holds that a call tells an error, and changes nothing.
func refuses(t *testing.T, what string, d *Disk, want api.Errno, call func(*Disk) api.Errno) {
	t.Helper()
	before, cut := stateOf(t, d), cutOf(t, d)
	is(t, what, call(d), want)
	is(t, what+": nothing is changed", stateOf(t, d) == before, true)
	is(t, what+": nothing that lasts is changed", cutOf(t, d) == cut, true)
}

// cutOf is all that can be asked of a disk behind a Cut.
func cutOf(t *testing.T, d *Disk) state {
	t.Helper()
	x := d.Twin()
	x.Cut()
	x.Restore()
	return stateOf(t, x)
}

// notNodes tells numbers that are of no node.
func notNodes() []int { return []int{-1, api.MaxNodes + 1, math.MinInt, math.MaxInt, 1 << 32} }

// counted is one of the five kinds of calls of which Arm counts.
type counted struct {
	name string
	good func(*Disk) api.Errno // told OK by a disk of three
	bad  func(*Disk) api.Errno // told an error
	err  api.Errno
}

func allCounted() []counted {
	return []counted{
		{"Write", func(d *Disk) api.Errno { return d.Write(2, 2, 5, text("w")) }, func(d *Disk) api.Errno { return d.Write(2, 2, 6, text("w")) }, api.ErrRange},
		{"Barrier", func(d *Disk) api.Errno { return d.Barrier(2, 2) }, func(d *Disk) api.Errno { return d.Barrier(2, 1) }, api.ErrFenced},
		{"Admit", func(d *Disk) api.Errno { return d.Admit(5, 9) }, func(d *Disk) api.Errno { return d.Admit(5, 3) }, api.ErrDup},
		{"Fence", func(d *Disk) api.Errno { return d.Fence(2) }, func(d *Disk) api.Errno { return d.Fence(-1) }, api.ErrArg},
		{"Put", func(d *Disk) api.Errno { return d.Put(5, 9) }, func(d *Disk) api.Errno { return d.Put(17, 9) }, api.ErrArg},
	}
}

func TestP801New(t *testing.T) {
	for _, n := range []int{0, -1, 20001, math.MaxInt, math.MinInt, 1<<32 + 1} {
		is(t, "New of too few or too many", New(n) == nil, true)
	}
	for _, n := range []int{1, 2, 19999, 20000} {
		d := New(n)
		is(t, "Sectors", d.Sectors(), n)
		is(t, "On", d.On(), true)
		is(t, "Last", d.Last(), 0)
		lists(t, "Table", d.Table(), make([]uint64, 17))
		s, e := d.Read(n-1, 1)
		is(t, "the last one's error", e, api.OK)
		is(t, "the last one", s, text("."))
	}
	is(t, "all of a new one", stateOf(t, New(5)) == state{on: true, sectors: 5, text: text(".....")}, true)
	is(t, "nothing is armed", New(5).Put(1, 1), api.OK)
}

func TestP801WithoutPower(t *testing.T) {
	d := three(t)
	is(t, "Put", d.Put(4, 44), api.OK)
	is(t, "Cut", d.Cut(), 7)
	is(t, "On", d.On(), false)
	for _, c := range allCounted() {
		is(t, c.name, c.good(d), api.ErrOff)
		is(t, c.name+", also where it is wrong", c.bad(d), api.ErrOff)
	}
	is(t, "Write by nobody", d.Write(-1, 0, -1, ""), api.ErrOff)
	is(t, "Barrier by nobody", d.Barrier(99, 0), api.ErrOff)
	for _, at := range []int{0, -1, 6} {
		s, e := d.Read(at, 1)
		is(t, "Read", s, "")
		is(t, "Read's error", e, api.ErrOff)
	}
	is(t, "Waiting", d.Waiting(1), 0)
	is(t, "Epoch", d.Epoch(1), 1)
	is(t, "Word", d.Word(4), 44)
	is(t, "Last", d.Last(), 3)
	is(t, "Sectors", d.Sectors(), 6)
	lists(t, "Table", d.Table()[:4], []uint64{3, 1, 2, 0})
	is(t, "Cut again", d.Cut(1, 1, 1), 0)
	is(t, "Twin", stateOf(t, d.Twin()) == stateOf(t, d), true)
	d.Restore()
	is(t, "On behind Restore", d.On(), true)
	holds(t, "behind Restore", d, "......")
	is(t, "what was admitted still is", d.Write(1, 1, 0, text("a")), api.OK)
	d.Restore()
	is(t, "Restore with power changes nothing", d.Waiting(1), 1)
}

func TestP802Write(t *testing.T) {
	d := admitted(t, 40)
	writes(t, d, 1, 1, 1, "a")
	holds(t, "one sector", d, ".a..")
	writes(t, d, 1, 1, 2, "bcdefghijklmnopq")
	holds(t, "sixteen", d, ".abcdefghijklmnopq.")
	writes(t, d, 2, 2, 16, "XYZ")
	holds(t, "another node, over them", d, ".abcdefghijklmnoXYZ.")
	writes(t, d, 0, 3, 0, "S")
	holds(t, "the server", d, "Sabcdefghijklmn")
	writes(t, d, 2, 2, 24, strings.Repeat("e", 16))
	s, e := d.Read(23, 17)
	is(t, "Read up to the end", e, api.OK)
	is(t, "up to the end", s, text("."+strings.Repeat("e", 16)))
	is(t, "Waiting of 1", d.Waiting(1), 17)
	is(t, "Waiting of 2", d.Waiting(2), 19)
	is(t, "Waiting of the server", d.Waiting(0), 1)
	is(t, "Waiting of another one", d.Waiting(3), 0)
}

// TestP802WriteKeepsBytes writes sectors whose bytes all differ.
func TestP802WriteKeepsBytes(t *testing.T) {
	b := make([]byte, 4*api.Sector)
	for k := range b {
		b[k] = byte(k)
	}
	d := admitted(t, 5)
	is(t, "Write", d.Write(1, 1, 1, string(b)), api.OK)
	s, e := d.Read(1, 4)
	is(t, "Read's error", e, api.OK)
	is(t, "Read", s, string(b))
	is(t, "Barrier", d.Barrier(1, 1), api.OK)
	d.Cut()
	d.Restore()
	s, _ = d.Read(1, 4)
	is(t, "behind a Cut", s, string(b))
	s, _ = d.Read(2, 1)
	is(t, "one of them", s, string(b[64:128]))
}

func TestP802WriteErrors(t *testing.T) {
	d := three(t)
	is(t, "Admit of the last node", d.Admit(16, 9), api.OK)
	for _, c := range []struct {
		what  string
		node  int
		epoch uint64
		at    int
		data  string
		want  api.Errno
	}{
		{"no bytes", 1, 1, 0, "", api.ErrArg},
		{"one byte", 1, 1, 0, "a", api.ErrArg},
		{"a byte less", 1, 1, 0, text("a")[1:], api.ErrArg},
		{"a byte more", 1, 1, 0, text("a") + "a", api.ErrArg},
		{"half a sector more", 1, 1, 0, text("aa")[32:], api.ErrArg},
		{"seventeen sectors", 1, 1, 0, text(strings.Repeat("a", 17)), api.ErrArg},
		{"sixteen and a byte", 1, 1, 0, text(strings.Repeat("a", 16)) + "a", api.ErrArg},
		{"an argument ahead of a fence", 1, 7, 0, "a", api.ErrArg},
		{"an argument ahead of a range", 1, 1, 99, "", api.ErrArg},
		{"the epoch 0", 1, 0, 0, text("a"), api.ErrFenced},
		{"the epoch 0 of one that has none", 3, 0, 0, text("a"), api.ErrFenced},
		{"another epoch", 1, 2, 0, text("a"), api.ErrFenced},
		{"another node's epoch", 2, 1, 0, text("a"), api.ErrFenced},
		{"a node that has none", 3, 3, 0, text("a"), api.ErrFenced},
		{"a fence ahead of a range", 1, 3, -1, text("a"), api.ErrFenced},
		{"ahead of the first sector", 1, 1, -1, text("a"), api.ErrRange},
		{"from ahead of it into it", 1, 1, -1, text("aa"), api.ErrRange},
		{"behind the last sector", 1, 1, 6, text("a"), api.ErrRange},
		{"over the end", 1, 1, 5, text("aa"), api.ErrRange},
		{"more than there are", 1, 1, 0, text("aaaaaaa"), api.ErrRange},
		{"the greatest number", 1, 1, math.MaxInt, text("a"), api.ErrRange},
		{"the least number", 1, 1, math.MinInt, text("aa"), api.ErrRange},
		{"the last node, over the end", 16, 9, 6, text("a"), api.ErrRange},
	} {
		refuses(t, "Write: "+c.what, d, c.want, func(d *Disk) api.Errno { return d.Write(c.node, c.epoch, c.at, c.data) })
	}
	for _, node := range notNodes() {
		refuses(t, "Write of no node", d, api.ErrArg, func(d *Disk) api.Errno { return d.Write(node, 1, 0, text("a")) })
	}
	writes(t, d, 16, 9, 5, "z")
	writes(t, d, 1, 1, 0, "yyyyyy")
	holds(t, "all there are", d, "yyyyyy")
}

func TestP802Read(t *testing.T) {
	d := admitted(t, 401)
	writes(t, d, 1, 1, 0, "a")
	writes(t, d, 1, 1, 399, "bc")
	s, e := d.Read(0, 400)
	is(t, "the error of four hundred", e, api.OK)
	is(t, "four hundred", s, text("a"+strings.Repeat(".", 398)+"b"))
	s, e = d.Read(1, 400)
	is(t, "the error of the last four hundred", e, api.OK)
	is(t, "the last four hundred", s, text(strings.Repeat(".", 398)+"bc"))
	for _, c := range []struct{ at, n int }{
		{0, 0}, {0, -1}, {0, 401}, {0, 402}, {-1, 1}, {-1, 2}, {401, 1}, {400, 2}, {2, 400}, {0, math.MaxInt}, {0, math.MinInt},
		{math.MaxInt, 1}, {math.MaxInt, 400}, {math.MinInt, 1}, {math.MinInt, 400}, {math.MaxInt, math.MaxInt}, {math.MinInt, math.MinInt}, {401, 0}, {1 << 32, 1},
	} {
		s, e := d.Read(c.at, c.n)
		is(t, "Read out of range", s, "")
		is(t, "Read's error out of range", e, api.ErrRange)
	}
	_, e = New(3).Read(0, 4)
	is(t, "more than there are", e, api.ErrRange)
}

func TestP802Barrier(t *testing.T) {
	d := three(t)
	holds(t, "all is read", d, "abcb..")
	lasting(t, "nothing lasts yet", d, "......")
	is(t, "Barrier of 2", d.Barrier(2, 2), api.OK)
	is(t, "Waiting of 2", d.Waiting(2), 0)
	is(t, "Waiting of 1", d.Waiting(1), 4)
	lasting(t, "what 2 wrote lasts", d, ".bbb..")
	is(t, "Barrier of 1", d.Barrier(1, 1), api.OK)
	is(t, "Waiting of 1 behind it", d.Waiting(1), 0)
	holds(t, "what is read is the same", d, "abcb..")
	lasting(t, "the latest of both", d, "abcb..")
	is(t, "Barrier with nothing that waits", d.Barrier(1, 1), api.OK)
	is(t, "Barrier of the server", d.Barrier(0, 3), api.OK)
	lasting(t, "the same still", d, "abcb..")
}

// TestP802LatestLasts makes an early write last behind a late one.
func TestP802LatestLasts(t *testing.T) {
	for _, order := range [][]int{{1, 2}, {2, 1}} {
		d := admitted(t, 2)
		writes(t, d, 1, 1, 0, "aa")
		writes(t, d, 2, 2, 0, "b")
		for _, node := range order {
			is(t, "Barrier", d.Barrier(node, uint64(node)), api.OK)
		}
		lasting(t, "the one that was written latest", d, "ba")
	}
	d := admitted(t, 1)
	writes(t, d, 1, 1, 0, "a")
	writes(t, d, 1, 1, 0, "b")
	writes(t, d, 1, 1, 0, "c")
	is(t, "each of them waits", d.Waiting(1), 3)
	is(t, "Barrier", d.Barrier(1, 1), api.OK)
	lasting(t, "the latest of one node's", d, "c")
	writes(t, d, 1, 1, 0, "d")
	lasting(t, "the next one does not last yet", d, "c")
}

func TestP802BarrierErrors(t *testing.T) {
	d := three(t)
	for _, node := range notNodes() {
		refuses(t, "Barrier of no node", d, api.ErrArg, func(d *Disk) api.Errno { return d.Barrier(node, 1) })
	}
	refuses(t, "Barrier of no node and no epoch", d, api.ErrArg, func(d *Disk) api.Errno { return d.Barrier(-1, 0) })
	for _, epoch := range []uint64{0, 2, 3, math.MaxUint64} {
		refuses(t, "Barrier of another epoch", d, api.ErrFenced, func(d *Disk) api.Errno { return d.Barrier(1, epoch) })
	}
	for _, epoch := range []uint64{0, 1, 4} {
		refuses(t, "Barrier of one that has no epoch", d, api.ErrFenced, func(d *Disk) api.Errno { return d.Barrier(3, epoch) })
	}
}

func TestP803Admit(t *testing.T) {
	d := New(4)
	is(t, "the epoch 0 is no epoch", d.Admit(1, 0), api.ErrDup)
	is(t, "the first epoch", d.Admit(1, 5), api.OK)
	is(t, "Epoch", d.Epoch(1), 5)
	is(t, "Last", d.Last(), 5)
	for _, epoch := range []uint64{0, 1, 4, 5} {
		for _, node := range []int{0, 1, 2, 16} {
			refuses(t, "Admit of one that is not above all", d, api.ErrDup, func(d *Disk) api.Errno { return d.Admit(node, epoch) })
		}
	}
	is(t, "another node", d.Admit(16, 6), api.OK)
	is(t, "the server", d.Admit(0, 100), api.OK)
	is(t, "not above another node's", d.Admit(1, 99), api.ErrDup)
	writes(t, d, 1, 5, 0, "a")
	is(t, "the same node again", d.Admit(1, 101), api.OK)
	lists(t, "Table", d.Table(), []uint64{100, 101, 0, 0, 0, 0, 0, 0, 0, 0, 0, 0, 0, 0, 0, 0, 6})
	is(t, "the epoch of before writes no more", d.Write(1, 5, 0, text("b")), api.ErrFenced)
	is(t, "nor has it a Barrier", d.Barrier(1, 5), api.ErrFenced)
	is(t, "what it wrote waits still", d.Waiting(1), 1)
	is(t, "and lasts by the new one's Barrier", d.Barrier(1, 101), api.OK)
	lasting(t, "it lasts", d, "a...")
	is(t, "the greatest", d.Admit(2, math.MaxUint64), api.OK)
	is(t, "Last of the greatest", d.Last(), math.MaxUint64)
	is(t, "none is above it", d.Admit(3, math.MaxUint64), api.ErrDup)
	for _, node := range notNodes() {
		refuses(t, "Admit of no node", d, api.ErrArg, func(d *Disk) api.Errno { return d.Admit(node, math.MaxUint64) })
		is(t, "Epoch of no node", d.Epoch(node), 0)
	}
	d.Cut()
	is(t, "epochs last at once", d.Epoch(2), math.MaxUint64)
}

func TestP803Fence(t *testing.T) {
	d := three(t)
	is(t, "Fence", d.Fence(1), api.OK)
	is(t, "Epoch", d.Epoch(1), 0)
	is(t, "Last", d.Last(), 3)
	lists(t, "Table", d.Table()[:4], []uint64{3, 0, 2, 0})
	is(t, "Waiting of it", d.Waiting(1), 0)
	is(t, "Waiting of the other one", d.Waiting(2), 3)
	lasting(t, "what of it waited lasts", d, "aac...")
	holds(t, "what is read is the same", d, "abcb..")
	for _, epoch := range []uint64{0, 1} {
		refuses(t, "Write of a fenced one", d, api.ErrFenced, func(d *Disk) api.Errno { return d.Write(1, epoch, 0, text("z")) })
		refuses(t, "Barrier of a fenced one", d, api.ErrFenced, func(d *Disk) api.Errno { return d.Barrier(1, epoch) })
	}
	is(t, "Fence again", d.Fence(1), api.OK)
	is(t, "Fence of one that has no epoch", d.Fence(16), api.OK)
	is(t, "its epoch again", d.Admit(1, 1), api.ErrDup)
	is(t, "the greatest again", d.Admit(1, 3), api.ErrDup)
	is(t, "the next one", d.Admit(1, 4), api.OK)
	writes(t, d, 1, 4, 0, "z")
	is(t, "Fence of the server", d.Fence(0), api.OK)
	is(t, "the server's Epoch", d.Epoch(0), 0)
	for _, node := range notNodes() {
		refuses(t, "Fence of no node", d, api.ErrArg, func(d *Disk) api.Errno { return d.Fence(node) })
	}
}

func TestP803Words(t *testing.T) {
	d := New(2)
	for node := range api.MaxNodes + 1 {
		is(t, "Put", d.Put(node, uint64(node)+7), api.OK)
	}
	is(t, "Put of the greatest", d.Put(3, math.MaxUint64), api.OK)
	is(t, "Put of 0", d.Put(4, 0), api.OK)
	is(t, "Put of a lesser one", d.Put(5, 1), api.OK)
	d.Cut()
	for node := range api.MaxNodes + 1 {
		want := uint64(node) + 7
		switch node {
		case 3:
			want = math.MaxUint64
		case 4:
			want = 0
		case 5:
			want = 1
		}
		is(t, "Word", d.Word(node), want)
	}
	d.Restore()
	is(t, "a word is no epoch", d.Last(), 0)
	lists(t, "nor is it in the Table", d.Table(), make([]uint64, 17))
	for _, node := range notNodes() {
		refuses(t, "Put of no node", d, api.ErrArg, func(d *Disk) api.Errno { return d.Put(node, 1) })
		is(t, "Word of no node", d.Word(node), 0)
		is(t, "Waiting of no node", d.Waiting(node), 0)
	}
}

func TestP804Example(t *testing.T) {
	d := New(4)
	is(t, "Admit", d.Admit(1, 1), api.OK)
	writes(t, d, 1, 1, 0, "ab")
	is(t, "Cut", d.Cut(0, 1), 2)
	d.Restore()
	holds(t, "the example", d, ".b")
}

func TestP804Cut(t *testing.T) {
	d := three(t)
	for _, c := range []struct {
		what string
		keep []int
		want string
	}{
		{"none", nil, "......"},
		{"the first one", []int{1}, "a....."},
		{"the first write", []int{1, 1, 1}, "aaa..."},
		{"one of each", []int{0, 0, 1, 0, 1}, "..b..."},
		{"an early one behind a late one", []int{0, 1, 0, 1}, ".b...."},
		{"the last one alone", []int{0, 0, 0, 0, 0, 0, 1}, "..c..."},
		{"all", []int{1, 1, 1, 1, 1, 1, 1}, "abcb.."},
		{"more than there are", []int{0, 0, 0, 0, 0, 1, 0, 1, 1, 1}, "...b.."},
		{"the lowest bit alone counts", []int{2, 3, math.MaxInt, 4, -2, -1, math.MinInt}, ".aab.."},
	} {
		x := d.Twin()
		is(t, c.what+": Cut", x.Cut(c.keep...), 7)
		is(t, c.what+": On", x.On(), false)
		x.Restore()
		holds(t, c.what, x, c.want)
		is(t, c.what+": nothing of 1 waits", x.Waiting(1), 0)
		is(t, c.what+": nothing of 2 waits", x.Waiting(2), 0)
		lasting(t, c.what+": what stays lasts", x, c.want)
	}
}

// TestP804CutBehindBarrier has some of what was written last, and the rest in its order still.
func TestP804CutBehindBarrier(t *testing.T) {
	for _, c := range []struct {
		what string
		node int
		n    int
		keep []int
		want string
	}{
		{"1 lasts", 1, 3, nil, "aac..."},
		{"1 lasts, all stays", 1, 3, []int{1, 1, 1}, "abcb.."},
		{"1 lasts, the last one stays", 1, 3, []int{0, 0, 1}, "aacb.."},
		{"2 lasts", 2, 4, nil, ".bbb.."},
		{"2 lasts, early ones stay", 2, 4, []int{1, 1, 1}, "abbb.."},
		{"2 lasts, the late one stays", 2, 4, []int{0, 0, 0, 1}, ".bcb.."},
	} {
		d := three(t)
		is(t, c.what+": Barrier", d.Barrier(c.node, uint64(c.node)), api.OK)
		is(t, c.what+": Cut", d.Cut(c.keep...), c.n)
		d.Restore()
		holds(t, c.what, d, c.want)
	}
}

// TestP804CutsInTurns has what was lost come back never, and what was written behind a Cut be later than what was ahead of it.
func TestP804CutsInTurns(t *testing.T) {
	d := three(t)
	is(t, "Cut", d.Cut(1, 1), 7)
	d.Restore()
	is(t, "Barrier of 1", d.Barrier(1, 1), api.OK)
	is(t, "Barrier of 2", d.Barrier(2, 2), api.OK)
	holds(t, "what was lost stays lost", d, "aa....")
	writes(t, d, 2, 2, 1, "zz")
	is(t, "the next Cut", d.Cut(1), 2)
	d.Restore()
	holds(t, "a late one over one that stayed", d, "az....")
	is(t, "Cut with nothing that waits", d.Cut(1, 1), 0)
	d.Restore()
	holds(t, "nothing is changed", d, "az....")
}

func TestP804Arm(t *testing.T) {
	for n := range 4 {
		for _, last := range allCounted() {
			d := three(t)
			d.Arm(n, 1, 0, 0, 1)
			for k := range n {
				is(t, "a call that is done", d.Put(k, 8), api.OK)
			}
			epochs, words := d.Table(), d.Word(5)
			is(t, last.name+" finds no power", last.good(d), api.ErrOff)
			is(t, last.name+": On", d.On(), false)
			is(t, last.name+": Waiting", d.Waiting(1)+d.Waiting(2), 0)
			lists(t, last.name+" is not done: Table", d.Table(), epochs)
			is(t, last.name+" is not done: Word", d.Word(5), words)
			is(t, last.name+" is not done: Last", d.Last(), 3)
			is(t, "the next one", d.Put(1, 1), api.ErrOff)
			d.Restore()
			holds(t, last.name+": what stays", d, "ab....")
			is(t, last.name+" behind Restore", last.good(d), api.OK)
			is(t, last.name+": it is armed no more", d.On(), true)
		}
	}
}

// TestP804ArmCounts has each kind of call count once, and count only where it is told OK.
func TestP804ArmCounts(t *testing.T) {
	for _, c := range allCounted() {
		d := three(t)
		d.Arm(1)
		for range 3 {
			is(t, c.name+" that is wrong", c.bad(d), c.err)
			d.Read(0, 1)
			d.Read(0, 0)
			stateOf(t, d)
			d.Twin().Put(1, 1)
			d.Restore()
		}
		is(t, c.name+", the one that is done", c.good(d), api.OK)
		is(t, c.name+" that is wrong, behind it", c.bad(d), c.err)
		is(t, c.name+": On", d.On(), true)
		is(t, c.name+", the next call", d.Put(1, 1), api.ErrOff)
		is(t, c.name+": On behind it", d.On(), false)
	}
}

func TestP804ArmKeeps(t *testing.T) {
	keep := []int{1, 1, 1, 0, 0, 0, 0}
	d := three(t)
	d.Arm(0, keep...)
	for k := range keep {
		keep[k] = 1 - keep[k]
	}
	is(t, "Put", d.Put(1, 1), api.ErrOff)
	lists(t, "the list that was handed in", keep, []int{0, 0, 0, 1, 1, 1, 1})
	d.Restore()
	holds(t, "what Arm was told stays", d, "aaa...")

	d = three(t)
	d.Arm(0, 1)
	d.Arm(1, 0, 1)
	is(t, "armed anew", d.Put(1, 1), api.OK)
	is(t, "Put then", d.Put(1, 1), api.ErrOff)
	d.Restore()
	holds(t, "what was told last stays", d, ".a....")

	d = three(t)
	d.Arm(1, 0, 0, 0, 0, 0, 0, 0, 1)
	writes(t, d, 2, 2, 5, "w")
	is(t, "Barrier", d.Barrier(2, 2), api.ErrOff)
	d.Restore()
	holds(t, "what was written behind Arm has its place", d, ".....w")
}

func TestP804ArmedNoMore(t *testing.T) {
	for _, n := range []int{-1, -2, math.MinInt} {
		d := three(t)
		d.Arm(0, 1)
		d.Arm(n, 1)
		is(t, "behind one below 0", d.Put(1, 1), api.OK)
	}
	d := three(t)
	d.Arm(0, 1)
	d.Cut()
	d.Restore()
	is(t, "behind a Cut", d.Put(1, 1), api.OK)
	d.Cut()
	d.Arm(0)
	d.Cut()
	d.Restore()
	is(t, "behind a Cut without power", d.Put(1, 1), api.OK)
	d.Cut()
	d.Arm(1)
	is(t, "Put without power", d.Put(1, 1), api.ErrOff)
	d.Restore()
	is(t, "armed without power, the first one", d.Put(1, 1), api.OK)
	is(t, "armed without power, the next one", d.Put(1, 1), api.ErrOff)
	d.Restore()
	d.Arm(math.MaxInt)
	for range 100 {
		is(t, "armed far away", d.Put(1, 1), api.OK)
	}
}

func TestP805Twin(t *testing.T) {
	d := three(t)
	is(t, "Barrier", d.Barrier(2, 2), api.OK)
	is(t, "Put", d.Put(7, 70), api.OK)
	x := d.Twin()
	before, cut := stateOf(t, d), cutOf(t, d)
	is(t, "the twin is the same", stateOf(t, x) == before, true)
	is(t, "also behind a Cut", cutOf(t, x) == cut, true)

	is(t, "Fence of the twin", x.Fence(1), api.OK)
	writes(t, x, 2, 2, 0, "zzzzzz")
	is(t, "Admit of the twin", x.Admit(5, 9), api.OK)
	is(t, "Put of the twin", x.Put(7, 71), api.OK)
	x.Arm(0, 1)
	is(t, "the first one is as it was", stateOf(t, d) == before, true)
	is(t, "also behind a Cut of it", cutOf(t, d) == cut, true)
	is(t, "it is not armed", d.Put(7, 70), api.OK)

	before, cut = stateOf(t, x), cutOf(t, x)
	writes(t, d, 2, 2, 0, "yyyyyy")
	writes(t, d, 1, 1, 0, "xxxxxx")
	is(t, "Barrier of the first one", d.Barrier(1, 1), api.OK)
	is(t, "Fence of the first one", d.Fence(2), api.OK)
	d.Cut()
	is(t, "the twin is as it was", stateOf(t, x) == before, true)
	is(t, "also behind a Cut of the twin", cutOf(t, x) == cut, true)
}

// TestP805TwinsWriteOn has twins go on from a list that has room left.
func TestP805TwinsWriteOn(t *testing.T) {
	d := three(t)
	for range 20 {
		x := d.Twin()
		writes(t, d, 1, 1, 4, "d")
		writes(t, x, 1, 1, 4, "x")
		lasting(t, "the twin's", x, "....x.", append(make([]int, x.Waiting(1)+x.Waiting(2)-1), 1)...)
		lasting(t, "the first one's", d, "....d.", append(make([]int, d.Waiting(1)+d.Waiting(2)-1), 1)...)
	}
}

// TestP805TwinOfArmed has each of them count on its own.
func TestP805TwinOfArmed(t *testing.T) {
	d := three(t)
	d.Arm(1, 1, 1)
	x := d.Twin()
	y := x.Twin()
	is(t, "the first one's first call", d.Put(1, 1), api.OK)
	is(t, "the first one's next call", d.Put(1, 1), api.ErrOff)
	is(t, "the twin's first call", x.Put(1, 1), api.OK)
	is(t, "the twin's next call", x.Put(1, 1), api.ErrOff)
	x.Restore()
	holds(t, "what stays of the twin", x, "aa....")
	y.Arm(-1)
	is(t, "the twin's twin is not armed", y.Put(1, 1), api.OK)
	is(t, "still not", y.Put(1, 1), api.OK)

	d.Restore()
	d.Cut()
	off := d.Twin()
	is(t, "a twin without power", off.On(), false)
	off.Restore()
	is(t, "the first one has none still", d.On(), false)
}

func TestP805NoDisk(t *testing.T) {
	var none *Disk
	for _, d := range []*Disk{none, {}, (&Disk{}).Twin()} {
		for range 2 {
			for _, c := range allCounted() {
				is(t, c.name, c.good(d), api.ErrOff)
				is(t, c.name+", wrong", c.bad(d), api.ErrOff)
			}
			s, e := d.Read(0, 1)
			is(t, "Read", s, "")
			is(t, "Read's error", e, api.ErrOff)
			is(t, "On", d.On(), false)
			is(t, "Sectors", d.Sectors(), 0)
			is(t, "Last", d.Last(), 0)
			is(t, "Table", len(d.Table()), 0)
			for _, node := range append(notNodes(), 0, 1, 16) {
				is(t, "Epoch", d.Epoch(node), 0)
				is(t, "Word", d.Word(node), 0)
				is(t, "Waiting", d.Waiting(node), 0)
			}
			is(t, "Cut", d.Cut(1, 1), 0)
			d.Arm(0, 1)
			d.Arm(-1)
			d.Arm(3)
			d.Restore()
		}
	}
	is(t, "a nil one's Twin", none.Twin() == nil, true)
}

// TestAnswersAreNew writes into what was told.
func TestAnswersAreNew(t *testing.T) {
	d := three(t)
	l := d.Table()
	for k := range l {
		l[k] = 99
	}
	lists(t, "Table", d.Table()[:4], []uint64{3, 1, 2, 0})
	is(t, "Epoch", d.Epoch(1), 1)
	before := d.Table()
	is(t, "Admit", d.Admit(1, 50), api.OK)
	is(t, "a Table of before", before[1], 1)
	s, _ := d.Read(0, 1)
	writes(t, d, 2, 2, 0, "z")
	is(t, "a text of before", s, text("a"))
}

// modelWrite is a write of one sector of the model, that is never forgotten.
type modelWrite struct {
	node, at int
	letter   byte
	state    int // 0: it waits; 1: it lasts; 2: it was lost
}

// model is a disk that keeps all that ever was, and works each answer out anew.
type model struct {
	sectors int
	on      bool
	all     []modelWrite
	epochs  map[int]uint64
	given   map[uint64]bool
	armed   int // below 0: not
	keep    []int
}

func (m *model) admits(node int, epoch uint64) bool { return epoch != 0 && m.epochs[node] == epoch }

// turn tells whether a call that is not wrong is done.
func (m *model) turn() bool {
	m.armed--
	if m.armed != -1 {
		m.armed = max(m.armed, -2)
		return true
	}
	m.cut(m.keep)
	return false
}

func (m *model) cut(keep []int) int {
	n := 0
	for k := range m.all {
		if w := &m.all[k]; w.state == 0 {
			w.state = 2
			if n < len(keep) && keep[n]%2 != 0 {
				w.state = 1
			}
			n++
		}
	}
	m.on, m.armed = false, -2
	return n
}

func (m *model) write(node int, epoch uint64, at int, letters string) api.Errno {
	switch {
	case !m.on:
		return api.ErrOff
	case node < 0 || node > 16 || len(letters) < 1 || len(letters) > 16:
		return api.ErrArg
	case !m.admits(node, epoch):
		return api.ErrFenced
	case at < 0 || at+len(letters) > m.sectors:
		return api.ErrRange
	case !m.turn():
		return api.ErrOff
	}
	for k := range len(letters) {
		m.all = append(m.all, modelWrite{node: node, at: at + k, letter: letters[k]})
	}
	return api.OK
}

// settle is Barrier, and Fence where fence is.
func (m *model) settle(node int, epoch uint64, fence bool) api.Errno {
	switch {
	case !m.on:
		return api.ErrOff
	case node < 0 || node > 16:
		return api.ErrArg
	case !fence && !m.admits(node, epoch):
		return api.ErrFenced
	case !m.turn():
		return api.ErrOff
	}
	for k := range m.all {
		if m.all[k].node == node && m.all[k].state == 0 {
			m.all[k].state = 1
		}
	}
	if fence {
		delete(m.epochs, node)
	}
	return api.OK
}

func (m *model) admit(node int, epoch uint64) api.Errno {
	if !m.on {
		return api.ErrOff
	}
	for e := range m.given {
		if epoch <= e {
			return api.ErrDup
		}
	}
	if !m.turn() {
		return api.ErrOff
	}
	m.epochs[node], m.given[epoch] = epoch, true
	return api.OK
}

// text is what is read of it, a letter a sector.
func (m *model) text() string {
	b := []byte(strings.Repeat(".", m.sectors))
	for _, w := range m.all {
		if w.state != 2 {
			b[w.at] = w.letter
		}
	}
	return string(b)
}

func (m *model) waiting(node int) int {
	n := 0
	for _, w := range m.all {
		if w.node == node && w.state == 0 {
			n++
		}
	}
	return n
}

// dice tells the same numbers each time.
type dice uint64

func (x *dice) throw(n int) int {
	*x = *x*6364136223846793005 + 1442695040888963407
	return int(uint64(*x) >> 33 % uint64(n))
}

func (x *dice) keep() []int {
	l := make([]int, x.throw(30))
	for k := range l {
		l[k] = x.throw(6) - 3
	}
	return l
}

// modelStep does one call of both, and holds what they tell against each other.
func modelStep(t *testing.T, x *dice, d *Disk, m *model) {
	t.Helper()
	node := x.throw(4) - x.throw(8)/7
	epoch := d.Epoch(node)
	if x.throw(8) == 0 {
		epoch = uint64(x.throw(9))
	}
	switch x.throw(16) {
	case 0:
		is(t, "Barrier", d.Barrier(node, epoch), m.settle(node, epoch, false))
	case 1:
		is(t, "Fence", d.Fence(node), m.settle(node, 0, true))
	case 2, 3, 4:
		if node >= 0 {
			epoch = d.Last() + uint64(x.throw(3))
			is(t, "Admit", d.Admit(node, max(epoch, 1)), m.admit(node, max(epoch, 1)))
		}
	case 5:
		keep := x.keep()
		is(t, "Cut", d.Cut(keep...), m.cut(keep))
	case 6:
		m.armed, m.keep = x.throw(12)-2, x.keep()
		d.Arm(m.armed, m.keep...)
	case 7:
		is(t, "Twin", d.Twin().Cut(1, 1), m.waiting(0)+m.waiting(1)+m.waiting(2)+m.waiting(3))
	case 8:
		d.Restore()
		m.on = true
	default:
		at, letters := x.throw(m.sectors+2)-1, strings.Repeat(string(rune('a'+x.throw(26))), x.throw(5))
		is(t, "Write", d.Write(node, epoch, at, text(letters)), m.write(node, epoch, at, letters))
	}
}

// TestModel holds long rows of calls against a disk that keeps all that ever was.
func TestModel(t *testing.T) {
	for seed := range 60 {
		x := dice(seed)
		n := 1 + x.throw(12)
		d, m := New(n), &model{sectors: n, on: true, epochs: map[int]uint64{}, given: map[uint64]bool{}, armed: -2}
		for step := range 400 {
			modelStep(t, &x, d, m)
			is(t, "On", d.On(), m.on)
			for node := range 5 {
				is(t, "Epoch", d.Epoch(node), m.epochs[node])
				is(t, "Waiting", d.Waiting(node), m.waiting(node))
			}
			if d.On() {
				holds(t, "what is read", d, m.text())
			}
			if t.Failed() {
				t.Fatal("seed", seed, "step", step)
			}
		}
	}
}

// TestMany has more that waits than any bound that one might think of, and then Barriers of few.
func TestMany(t *testing.T) {
	d := admitted(t, 20000)
	all := text(strings.Repeat("a", 16))
	for k := range 10000 {
		is(t, "Write", d.Write(1, 1, k*16%20000, all), api.OK)
	}
	is(t, "Waiting", d.Waiting(1), 160000)
	for range 50 {
		writes(t, d, 2, 2, 7, "b")
		is(t, "Barrier", d.Barrier(2, 2), api.OK)
	}
	keep := make([]int, 160000)
	keep[159999] = 1
	is(t, "Cut", d.Cut(keep...), 160000)
	d.Restore()
	holds(t, "what lasts", d, ".......b..")
	s, e := d.Read(19999, 1)
	is(t, "the last one's error", e, api.OK)
	is(t, "the last one stays", s, text("a"))
}
