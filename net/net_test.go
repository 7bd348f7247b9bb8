package net

import (
	"math"
	"slices"
	"strconv"
	"strings"
	"testing"

	"commons/api"
)

// is holds one answer against what is wanted.
func is[T comparable](t *testing.T, what string, got, want T) {
	t.Helper()
	if got != want {
		t.Errorf("%s: %v, not %v", what, got, want)
	}
}

// tells holds a packet and whether it is there against what is wanted.
func tells(t *testing.T, what string, got Packet, there bool, want Packet, wantThere bool) {
	t.Helper()
	if got != want || there != wantThere {
		t.Errorf("%s: %v, %v, not %v, %v", what, got, there, want, wantThere)
	}
}

// has holds all packets of a net against those that it should have.
func has(t *testing.T, what string, n *Net, want ...Packet) {
	t.Helper()
	is(t, what+": Len", n.Len(), len(want))
	for k, p := range want {
		got, there := n.Peek(k)
		tells(t, what+": Peek", got, there, p, true)
	}
	for _, k := range outside(len(want)) {
		got, there := n.Peek(k)
		tells(t, what+": Peek outside", got, there, Packet{}, false)
	}
}

// outside tells places that are not there among so many packets.
func outside(count int) []int {
	return []int{math.MinInt, -count - 1, -1, count, count + 1, api.MaxNet, math.MaxInt}
}

func pack(from, to int, data string) Packet { return Packet{From: from, To: to, Data: data} }

// letters tells a packet of each letter, from 1 to 2.
func letters(s string) []Packet {
	var l []Packet
	for _, c := range strings.Split(s, "") {
		l = append(l, pack(1, 2, c))
	}
	return l
}

// numbered tells so many packets, each with a number of its own.
func numbered(count int) []Packet {
	l := make([]Packet, count)
	for k := range l {
		l[k] = pack(k%5, k%3, strconv.Itoa(k))
	}
	return l
}

// netOf makes a net of a packet of each letter.
func netOf(t *testing.T, s string) *Net {
	t.Helper()
	n := New()
	is(t, "Send of "+s, n.Send(letters(s)...), len(s))
	has(t, "sent", n, letters(s)...)
	return n
}

// netsOf makes a new net, a zero one, and one that was full and lost all, round the end of what keeps packets.
func netsOf() map[string]*Net {
	used := New()
	used.Send(numbered(api.MaxNet)...)
	for range api.MaxNet - 5 {
		used.Take(0)
	}
	used.Clear()
	return map[string]*Net{"New": New(), "zero": {}, "used": used}
}

func TestP1401Examples(t *testing.T) {
	n := New()
	x, y := pack(1, 2, "x"), pack(1, 2, "y")
	is(t, "Send", n.Send(x, y), 2)
	is(t, "Swap", n.Swap(0, 1), true)
	p, there := n.Take(0)
	tells(t, "Take", p, there, y, true)
	has(t, "what is left", n, x)
}

func TestP1401Send(t *testing.T) {
	for what, n := range netsOf() {
		a, b, c := pack(1, 2, "a"), pack(2, 1, ""), pack(0, 0, "\x00\xff")
		has(t, what, n)
		is(t, what+": Send of none", n.Send(), 0)
		is(t, what+": Send of a nil list", n.Send(nil...), 0)
		is(t, what+": Send of one", n.Send(a), 1)
		has(t, what+": one", n, a)
		is(t, what+": Send of more", n.Send(b, a, c), 3)
		has(t, what+": each at the end", n, a, b, a, c)
	}
}

func TestP1401SendOfAnyEnds(t *testing.T) {
	n := New()
	l := []Packet{pack(-1, 0, "a"), pack(math.MinInt, math.MaxInt, "b"), pack(math.MaxInt, math.MaxInt, "c"), {}, pack(70000, -70000, "d")}
	is(t, "Send", n.Send(l...), len(l))
	has(t, "all stand there", n, l...)
}

func TestP1401SendKeepsNoList(t *testing.T) {
	n := New()
	l := letters("abc")
	n.Send(l...)
	l[1] = pack(9, 9, "changed")
	has(t, "the list was changed", n, letters("abc")...)
	l = letters("def")
	n.Send(l...)
	n.Swap(3, 5)
	n.Take(0)
	is(t, "what was handed in", slices.Equal(l, letters("def")), true)
}

func TestP1401SendWithoutRoom(t *testing.T) {
	for _, c := range []struct{ first, then, want int }{
		{0, 899, 899}, {0, 900, 900}, {0, 901, 900}, {0, 2000, 900},
		{1, 900, 899}, {899, 1, 1}, {899, 2, 1}, {900, 1, 0}, {900, 1000, 0},
	} {
		for what, n := range netsOf() {
			l := numbered(c.first + c.then)
			is(t, what+": Send of the first", n.Send(l[:c.first]...), c.first)
			is(t, what+": Send of the others", n.Send(l[c.first:]...), c.want)
			has(t, what+": those that had room", n, l[:c.first+c.want]...)
		}
	}
}

// TestP1401SendOneByOne has cut packets among the last ones that have room: they take none.
func TestP1401SendOneByOne(t *testing.T) {
	n := New()
	n.Cut(7, 8, true)
	first := numbered(api.MaxNet - 2)
	n.Send(first...)
	a, b, c, lost := pack(1, 2, "a"), pack(1, 2, "b"), pack(1, 2, "c"), pack(7, 8, "lost")
	is(t, "Send", n.Send(lost, a, lost, lost, b, lost, c), 2)
	has(t, "those that are not cut have room", n, append(first, a, b)...)
	n.Take(0)
	is(t, "Send of a cut one", n.Send(lost), 0)
	is(t, "Send where there is room again", n.Send(c), 1)
	has(t, "one went, one came", n, append(first[1:], a, b, c)...)
}

func TestP1401Take(t *testing.T) {
	for _, c := range []struct {
		k           int
		taken, left string
	}{
		{0, "a", "bcde"}, {1, "b", "acde"}, {2, "c", "abde"}, {3, "d", "abce"}, {4, "e", "abcd"},
	} {
		n := netOf(t, "abcde")
		p, there := n.Take(c.k)
		tells(t, "Take", p, there, pack(1, 2, c.taken), true)
		has(t, "what is left, in order", n, letters(c.left)...)
		n.Send(letters("f")...)
		has(t, "the next one stands at the end", n, letters(c.left+"f")...)
	}
}

func TestP1401TakeOutside(t *testing.T) {
	for _, s := range []string{"", "a", "abc"} {
		n := netOf(t, s)
		for _, k := range outside(len(s)) {
			p, there := n.Take(k)
			tells(t, "Take outside", p, there, Packet{}, false)
			has(t, "nothing is gone", n, letters(s)...)
		}
	}
}

// TestP1401TakeOfAll takes all of a full net, from each of some places.
func TestP1401TakeOfAll(t *testing.T) {
	for _, place := range []int{0, 1, 450, 898, 899} {
		n, want := New(), numbered(api.MaxNet)
		n.Send(want...)
		for len(want) > 0 {
			k := min(place, len(want)-1)
			p, there := n.Take(k)
			tells(t, "Take", p, there, want[k], true)
			want = slices.Delete(want, k, k+1)
		}
		has(t, "all are gone", n)
		is(t, "Send of as many", n.Send(numbered(api.MaxNet)...), api.MaxNet)
	}
}

func TestP1401PeekTakesNothing(t *testing.T) {
	n := netOf(t, "abc")
	for range 3 {
		p, there := n.Peek(1)
		tells(t, "Peek", p, there, pack(1, 2, "b"), true)
		p.Data = "changed"
	}
	has(t, "all are there", n, letters("abc")...)
}

func TestP1401Drop(t *testing.T) {
	for k, left := range []string{"bcd", "acd", "abd", "abc"} {
		n := netOf(t, "abcd")
		is(t, "Drop", n.Drop(k), true)
		has(t, "what is left, in order", n, letters(left)...)
	}
	for _, s := range []string{"", "a", "abc"} {
		n := netOf(t, s)
		for _, k := range outside(len(s)) {
			is(t, "Drop outside", n.Drop(k), false)
			has(t, "nothing is gone", n, letters(s)...)
		}
	}
}

func TestP1401Double(t *testing.T) {
	for k, then := range []string{"abcda", "abcdb", "abcdc", "abcdd"} {
		n := netOf(t, "abcd")
		is(t, "Double", n.Double(k), true)
		has(t, "one more at the end", n, letters(then)...)
	}
	for _, s := range []string{"", "a", "abc"} {
		n := netOf(t, s)
		for _, k := range outside(len(s)) {
			is(t, "Double outside", n.Double(k), false)
			has(t, "nothing came", n, letters(s)...)
		}
	}
}

func TestP1401DoubleHasAllOfIt(t *testing.T) {
	n, p := New(), pack(-3, 1<<40, "\x00 and more")
	n.Send(p)
	is(t, "Double", n.Double(0), true)
	has(t, "two of it", n, p, p)
	n.Take(0)
	has(t, "one of them is left", n, p)
}

func TestP1401DoubleWithoutRoom(t *testing.T) {
	n, l := New(), numbered(api.MaxNet)
	n.Send(l[1:]...)
	is(t, "Double where one has room", n.Double(2), true)
	l = append(l[1:], l[3])
	has(t, "full", n, l...)
	for _, k := range []int{0, 1, 899, 900} {
		is(t, "Double of a full one", n.Double(k), false)
	}
	has(t, "still full", n, l...)
	n.Drop(0)
	is(t, "Double where there is room again", n.Double(0), true)
	has(t, "full again", n, append(l[1:], l[1])...)
}

func TestP1401Swap(t *testing.T) {
	for _, c := range []struct {
		k, j int
		then string
	}{
		{0, 1, "bacd"}, {1, 0, "bacd"}, {0, 3, "dbca"}, {3, 0, "dbca"}, {1, 2, "acbd"}, {3, 2, "abdc"},
		{0, 0, "abcd"}, {3, 3, "abcd"},
	} {
		n := netOf(t, "abcd")
		is(t, "Swap", n.Swap(c.k, c.j), true)
		has(t, "the two changed places", n, letters(c.then)...)
		is(t, "Swap back", n.Swap(c.k, c.j), true)
		has(t, "as it was", n, letters("abcd")...)
	}
}

func TestP1401SwapOutside(t *testing.T) {
	for _, s := range []string{"", "a", "abc"} {
		n := netOf(t, s)
		for _, k := range outside(len(s)) {
			is(t, "Swap of the first outside", n.Swap(k, 0), false)
			is(t, "Swap of the second outside", n.Swap(0, k), false)
			is(t, "Swap of one outside with itself", n.Swap(k, k), false)
			has(t, "nothing changed", n, letters(s)...)
		}
	}
}

func TestP1401Cut(t *testing.T) {
	for _, c := range []struct {
		a, b int
		left string
	}{
		{1, 2, "cdefgh"}, {2, 1, "cdefgh"}, {1, 3, "abdefgh"}, {3, 1, "abdefgh"}, {4, 4, "abcefgh"}, {1, 1, "abcdefgh"},
		{2, 3, "abcdfgh"}, {-1, 1 << 40, "abcdegh"}, {1 << 40, -1, "abcdegh"}, {math.MinInt, math.MaxInt, "abcdefg"},
	} {
		l := []Packet{
			pack(1, 2, "a"), pack(2, 1, "b"), pack(1, 3, "c"), pack(4, 4, "d"),
			pack(3, 2, "e"), pack(-1, 1<<40, "f"), pack(0, 0, "g"), pack(math.MaxInt, math.MinInt, "h"),
		}
		var left []Packet
		for _, p := range l {
			if strings.Contains(c.left, p.Data) {
				left = append(left, p)
			}
		}
		for what, n := range netsOf() {
			n.Cut(c.a, c.b, true)
			is(t, what+": Send", n.Send(l...), len(left))
			has(t, what+": what was cut is lost", n, left...)
			n.Cut(c.b, c.a, false)
			is(t, what+": Send behind the cut", n.Send(l...), len(l))
			has(t, what+": what was lost stays so", n, append(left, l...)...)
		}
	}
}

// TestP1401CutAgain cuts what is cut and joins what is joined: that is no more than once.
func TestP1401CutAgain(t *testing.T) {
	n, p := New(), pack(1, 2, "a")
	n.Cut(1, 2, false)
	is(t, "Send where nothing was cut", n.Send(p), 1)
	n.Cut(1, 2, true)
	n.Cut(1, 2, true)
	n.Cut(2, 1, true)
	is(t, "Send while cut", n.Send(p), 0)
	n.Cut(1, 2, false)
	is(t, "Send behind the cut", n.Send(p), 1)
	n.Cut(1, 2, false)
	n.Cut(1, 2, true)
	is(t, "Send behind a cut anew", n.Send(p), 0)
}

func TestP1401CutsOfMany(t *testing.T) {
	n := New()
	for a := range 17 {
		for b := range a {
			n.Cut(a, b, true)
		}
	}
	for a := range 17 {
		n.Cut(3, a, false)
	}
	for a := range 17 {
		for b := range 17 {
			want := 0
			if a == b || a == 3 || b == 3 {
				want = 1
			}
			is(t, "Send", n.Send(pack(a, b, "")), want)
		}
	}
}

// TestP1401CutIsFromNowOn cuts ends between which packets are on their way: those stay, and can be doubled.
func TestP1401CutIsFromNowOn(t *testing.T) {
	n := netOf(t, "abc")
	n.Cut(1, 2, true)
	has(t, "all are there", n, letters("abc")...)
	is(t, "Double", n.Double(1), true)
	is(t, "Swap", n.Swap(0, 2), true)
	has(t, "a cut is for what is sent alone", n, letters("cbab")...)
	p, there := n.Take(0)
	tells(t, "Take", p, there, pack(1, 2, "c"), true)
	is(t, "Send", n.Send(letters("d")...), 0)
}

func TestP1401Clear(t *testing.T) {
	for what, n := range netsOf() {
		is(t, what+": Clear of none", n.Clear(), 0)
		n.Send(letters("abc")...)
		n.Take(0)
		n.Double(1)
		is(t, what+": Clear", n.Clear(), 3)
		has(t, what+": all are gone", n)
		is(t, what+": Clear again", n.Clear(), 0)
		is(t, what+": Send of more than have room", n.Send(numbered(api.MaxNet+1)...), api.MaxNet)
		is(t, what+": Clear of a full one", n.Clear(), api.MaxNet)
		has(t, what+": all are gone again", n)
	}
}

func TestP1401ClearLeavesCuts(t *testing.T) {
	n := netOf(t, "abc")
	n.Cut(1, 2, true)
	is(t, "Clear", n.Clear(), 3)
	is(t, "Send of a cut one", n.Send(pack(2, 1, "d")), 0)
	has(t, "still cut", n)
}

// model is a net that is as plain as it can be.
type model struct {
	packets []Packet
	cuts    []Packet // by their ends
}

func (m *model) send(p Packet) int {
	for _, c := range m.cuts {
		if c.From == p.From && c.To == p.To || c.From == p.To && c.To == p.From {
			return 0
		}
	}
	if len(m.packets) >= api.MaxNet {
		return 0
	}
	m.packets = append(m.packets, p)
	return 1
}

func (m *model) take(k int) (Packet, bool) {
	if k < 0 || k >= len(m.packets) {
		return Packet{}, false
	}
	p := m.packets[k]
	m.packets = slices.Delete(m.packets, k, k+1)
	return p, true
}

func (m *model) cut(a, b int, on bool) {
	if on {
		m.cuts = append(m.cuts, pack(a, b, ""))
		return
	}
	m.cuts = slices.DeleteFunc(m.cuts, func(c Packet) bool {
		return c.From == a && c.To == b || c.From == b && c.To == a
	})
}

// TestP1401Rounds holds nets against the model, through many calls, where few and where many packets are on their way.
func TestP1401Rounds(t *testing.T) {
	for _, start := range []int{0, 3, 880, 900} {
		n, m := New(), &model{}
		n.Send(numbered(start)...)
		m.packets = numbered(start)
		seed := uint32(start)
		next := func(below int) int {
			seed = seed*1664525 + 1013904223
			return int(seed>>16) % below
		}
		for call := range 1500 {
			count := len(m.packets)
			k, j := next(count+2)-1, next(count+2)-1
			isK, isJ := k >= 0 && k < count, j >= 0 && j < count
			switch next(9) {
			case 0, 1, 2:
				p, q := pack(next(4), next(4), strconv.Itoa(call)), pack(next(4), next(4), "")
				is(t, "Send", n.Send(p, q), m.send(p)+m.send(q))
			case 3:
				got, there := n.Take(k)
				want, wantThere := m.take(k)
				tells(t, "Take", got, there, want, wantThere)
			case 4:
				_, want := m.take(k)
				is(t, "Drop", n.Drop(k), want)
			case 5, 6:
				is(t, "Double", n.Double(k), isK && count < api.MaxNet)
				if isK && count < api.MaxNet {
					m.packets = append(m.packets, m.packets[k])
				}
			case 7:
				is(t, "Swap", n.Swap(k, j), isK && isJ)
				if isK && isJ {
					m.packets[k], m.packets[j] = m.packets[j], m.packets[k]
				}
			default:
				a, b, on := next(4), next(4), next(2) == 0
				n.Cut(a, b, on)
				m.cut(a, b, on)
			}
			has(t, "after a call", n, m.packets...)
			if t.Failed() {
				return
			}
		}
	}
}

// TestP1402Zero has each call be the first one of a zero net, and of a new one.
func TestP1402Zero(t *testing.T) {
	for what, fresh := range map[string]func() *Net{"New": New, "zero": func() *Net { return &Net{} }} {
		is(t, what+": Send", fresh().Send(letters("ab")...), 2)
		is(t, what+": Len", fresh().Len(), 0)
		is(t, what+": Clear", fresh().Clear(), 0)
		is(t, what+": Drop", fresh().Drop(0), false)
		is(t, what+": Double", fresh().Double(0), false)
		is(t, what+": Swap", fresh().Swap(0, 0), false)
		p, there := fresh().Take(0)
		tells(t, what+": Take", p, there, Packet{}, false)
		p, there = fresh().Peek(0)
		tells(t, what+": Peek", p, there, Packet{}, false)
		n := fresh()
		n.Cut(1, 2, true)
		is(t, what+": Send of a cut one, and another one", n.Send(pack(2, 1, "a"), pack(2, 3, "b")), 1)
		has(t, what+": behind Cut", n, pack(2, 3, "b"))
		n = fresh()
		n.Cut(1, 2, false)
		is(t, what+": Send behind a cut that is none", n.Send(pack(2, 1, "a")), 1)
		has(t, what+": behind a cut that is none", n, pack(2, 1, "a"))
	}
}

func TestP1402ZeroHasAllRoom(t *testing.T) {
	var n Net
	l := numbered(1000)
	is(t, "Send", n.Send(l...), api.MaxNet)
	has(t, "a full one", &n, l[:api.MaxNet]...)
}

func TestP1402Nil(t *testing.T) {
	var n *Net
	for range 2 {
		is(t, "Send", n.Send(letters("ab")...), 0)
		is(t, "Send of none", n.Send(), 0)
		for _, on := range []bool{true, false} {
			n.Cut(1, 2, on)
		}
		for _, k := range outside(1) {
			is(t, "Drop", n.Drop(k), false)
			is(t, "Double", n.Double(k), false)
			is(t, "Swap", n.Swap(k, 0), false)
			p, there := n.Take(k)
			tells(t, "Take", p, there, Packet{}, false)
		}
		is(t, "Swap with itself", n.Swap(0, 0), false)
		is(t, "Clear", n.Clear(), 0)
		has(t, "nil", n)
	}
}

// TestNetsAreApart has what is done to one net not be seen in another one.
func TestNetsAreApart(t *testing.T) {
	a, b := netOf(t, "ab"), New()
	has(t, "the other one", b)
	a.Cut(1, 2, true)
	is(t, "Send to the other one", b.Send(letters("xyz")...), 3)
	a.Clear()
	has(t, "the other one stays", b, letters("xyz")...)
	has(t, "cleared", a)
}
