package span

import (
	"math"
	"slices"
	"testing"

	"commons/api"
)

// is holds one answer against what is wanted.
func is[T comparable](t *testing.T, what string, got, want T) {
	t.Helper()
	if got != want {
		t.Errorf("%s: %v, not %v", what, got, want)
	}
}

// lists holds a list against what is wanted; a nil one and an empty one are the same.
func lists[T comparable](t *testing.T, what string, got, want []T) {
	t.Helper()
	if !slices.Equal(got, want) {
		t.Errorf("%s: %v, not %v", what, got, want)
	}
}

// meet holds Meet, and Meets, both ways round, against what is wanted.
func meet(t *testing.T, a, b, want api.Span, wantThere bool) {
	t.Helper()
	for _, p := range [][2]api.Span{{a, b}, {b, a}} {
		got, there := Meet(p[0], p[1])
		if got != want || there != wantThere {
			t.Errorf("Meet of %v: %v, %v, not %v, %v", p, got, there, want, wantThere)
		}
		if m := Meets(p[0], p[1]); m != wantThere {
			t.Errorf("Meets of %v: %v", p, m)
		}
	}
}

// blocks holds what Blocks tells against what is wanted.
func blocks(t *testing.T, what string, most int, l []api.Span, want []int, wantDone bool) {
	t.Helper()
	got, done := Blocks(most, l...)
	lists(t, what, got, want)
	is(t, what+": done", done, wantDone)
}

func sp(from, to int) api.Span { return api.Span{From: from, To: to} }

// sps makes a list of its pairs of numbers.
func sps(ends ...int) []api.Span {
	var l []api.Span
	for k := 0; k+1 < len(ends); k += 2 {
		l = append(l, sp(ends[k], ends[k+1]))
	}
	return l
}

// set has a bit for each of the blocks 0 to 63.
type set uint64

// has is the definition of a block of a valid span, by its words alone.
func has(s api.Span, block int) bool {
	return s.From >= 0 && s.From < s.To && s.From <= block && block < s.To
}

func setOf(l ...api.Span) set {
	var b set
	for _, s := range l {
		for k := range 64 {
			if has(s, k) {
				b |= 1 << k
			}
		}
	}
	return b
}

// spans tells the only list, rising and as short as it can be, that has the blocks of a set.
func (b set) spans() []api.Span {
	var l []api.Span
	for k := 0; k < 64; k++ {
		if b>>k&1 == 0 {
			continue
		}
		from := k
		for k < 64 && b>>k&1 == 1 {
			k++
		}
		l = append(l, sp(from, k))
	}
	return l
}

func (b set) blocks() []int {
	var l []int
	for k := range 64 {
		if b>>k&1 == 1 {
			l = append(l, k)
		}
	}
	return l
}

// forms tells lists of many forms that have just the blocks of a set.
func (b set) forms() [][]api.Span {
	short := b.spans()
	var single []api.Span
	for _, k := range b.blocks() {
		single = append(single, sp(k, k+1))
	}
	back := slices.Clone(single)
	slices.Reverse(back)
	wrong := sps(-1, 3, 2, 2, 4, 1, 0, 0, -5, -2)
	return [][]api.Span{short, single, slices.Concat(back, short), slices.Concat(wrong, back, wrong, short)}
}

// pairs calls f with each two sets of the blocks 0 to 4, in each two of their forms.
func pairs(f func(a, b []api.Span, sa, sb set)) {
	for sa := range set(32) {
		for sb := range set(32) {
			for _, a := range sa.forms() {
				for _, b := range sb.forms() {
					f(a, b, sa, sb)
				}
			}
		}
	}
}

// dice tells numbers that look thrown, the same each time.
type dice uint32

func (d *dice) next(n int) int {
	*d = *d*1664525 + 1013904223
	return int(*d>>8) % n
}

// list throws a list, in which some spans are not valid.
func (d *dice) list() []api.Span {
	var l []api.Span
	for range d.next(9) {
		from := d.next(48) - 4
		l = append(l, sp(from, from+d.next(14)-3))
	}
	return l
}

func TestP601Valid(t *testing.T) {
	for _, c := range []struct {
		s    api.Span
		want bool
	}{
		{sp(0, 1), true}, {sp(3, 9), true}, {sp(0, math.MaxInt), true}, {sp(math.MaxInt-1, math.MaxInt), true},
		{sp(0, 0), false}, {sp(3, 3), false}, {sp(5, 3), false}, {sp(math.MaxInt, math.MaxInt), false}, {sp(math.MaxInt, 0), false},
		{sp(-1, 1), false}, {sp(-1, 0), false}, {sp(-3, -1), false}, {sp(0, -1), false},
		{sp(math.MinInt, math.MaxInt), false}, {sp(math.MaxInt, math.MinInt), false}, {sp(math.MinInt, math.MinInt), false},
	} {
		if got := Valid(c.s); got != c.want {
			t.Errorf("Valid(%v): %v", c.s, got)
		}
	}
}

func TestP601Len(t *testing.T) {
	for _, c := range []struct {
		s    api.Span
		want int
	}{
		{sp(0, 1), 1}, {sp(2, 7), 5}, {sp(0, math.MaxInt), math.MaxInt}, {sp(1, math.MaxInt), math.MaxInt - 1}, {sp(math.MaxInt-1, math.MaxInt), 1},
		{sp(0, 0), 0}, {sp(7, 2), 0}, {sp(-1, 5), 0}, {sp(-5, -1), 0},
		{sp(math.MinInt, math.MaxInt), 0}, {sp(math.MaxInt, math.MinInt), 0}, {sp(-2, math.MaxInt), 0},
	} {
		if got := Len(c.s); got != c.want {
			t.Errorf("Len(%v): %d, not %d", c.s, got, c.want)
		}
	}
}

func TestP601Has(t *testing.T) {
	for from := -3; from < 6; from++ {
		for to := -3; to < 6; to++ {
			for b := -5; b < 8; b++ {
				if s := sp(from, to); Has(s, b) != has(s, b) {
					t.Errorf("Has(%v, %d): %v", s, b, Has(s, b))
				}
			}
		}
	}
	all := sp(0, math.MaxInt)
	is(t, "the first of all", Has(all, 0), true)
	is(t, "the last of all", Has(all, math.MaxInt-1), true)
	is(t, "its end", Has(all, math.MaxInt), false)
	is(t, "the least number", Has(all, math.MinInt), false)
	is(t, "of one that begins below 0", Has(sp(math.MinInt, math.MaxInt), 5), false)
}

func TestP601Meet(t *testing.T) {
	for _, c := range []struct{ a, b, want api.Span }{
		{sp(0, 5), sp(3, 9), sp(3, 5)}, {sp(0, 9), sp(3, 4), sp(3, 4)}, {sp(2, 4), sp(2, 4), sp(2, 4)}, {sp(0, 4), sp(3, 9), sp(3, 4)},
		{sp(0, math.MaxInt), sp(7, math.MaxInt), sp(7, math.MaxInt)},
		{sp(0, math.MaxInt), sp(math.MaxInt-1, math.MaxInt), sp(math.MaxInt-1, math.MaxInt)},
	} {
		meet(t, c.a, c.b, c.want, true)
	}
	for _, c := range [][2]api.Span{
		{sp(0, 3), sp(3, 9)}, {sp(0, 3), sp(5, 9)}, {sp(-1, 9), sp(3, 4)}, {sp(0, 9), sp(4, 3)}, {sp(0, 9), sp(4, 4)},
		{sp(-2, 5), sp(-2, 5)}, {sp(math.MinInt, math.MaxInt), sp(0, math.MaxInt)}, {{}, {}}, {sp(0, 9), {}},
	} {
		meet(t, c[0], c[1], api.Span{}, false)
	}
}

// TestP601MeetOfAll holds the blocks that two have in common against those that both have, one by one.
func TestP601MeetOfAll(t *testing.T) {
	var all []api.Span
	for from := -2; from < 6; from++ {
		for to := -2; to < 6; to++ {
			all = append(all, sp(from, to))
		}
	}
	for _, a := range all {
		for _, b := range all {
			var want api.Span
			both := (setOf(a) & setOf(b)).spans()
			if len(both) > 0 {
				want = both[0]
			}
			meet(t, a, b, want, len(both) > 0)
		}
	}
}

func TestP602Examples(t *testing.T) {
	lists(t, "Norm", Norm(sp(3, 5), sp(1, 3), sp(9, 9)), sps(1, 5))
}

func TestP602Norm(t *testing.T) {
	for _, c := range []struct {
		what    string
		l, want []api.Span
	}{
		{"none", nil, nil},
		{"an empty list", []api.Span{}, nil},
		{"none that is valid", sps(9, 9, 5, 3, -1, 4, 0, 0), nil},
		{"one", sps(3, 5), sps(3, 5)},
		{"one twice", sps(3, 5, 3, 5), sps(3, 5)},
		{"two that touch", sps(0, 3, 3, 5), sps(0, 5)},
		{"two that touch, the later one first", sps(3, 5, 0, 3), sps(0, 5)},
		{"two with one block between", sps(0, 3, 4, 5), sps(0, 3, 4, 5)},
		{"two that meet", sps(2, 6, 0, 4), sps(0, 6)},
		{"one inside of another", sps(2, 3, 0, 9), sps(0, 9)},
		{"one inside of another, and one behind it", sps(0, 9, 2, 3, 5, 6, 8, 11), sps(0, 11)},
		{"one that begins as another", sps(1, 9, 1, 3, 9, 10), sps(1, 10)},
		{"one between two", sps(0, 2, 4, 6, 2, 4), sps(0, 6)},
		{"several", sps(9, 12, 0, 2, 1, 4, -3, 2, 6, 7, 4, 5), sps(0, 5, 6, 7, 9, 12)},
		{"one that is not valid joins none", sps(0, 2, 5, 1, 4, 6), sps(0, 2, 4, 6)},
		{"one that begins below 0 has no block", sps(-1, 9, 3, 4), sps(3, 4)},
		{"the greatest", sps(0, math.MaxInt, 5, 6), sps(0, math.MaxInt)},
		{"at the end", sps(math.MaxInt-1, math.MaxInt, 0, 1, math.MaxInt-3, math.MaxInt-1), sps(0, 1, math.MaxInt-3, math.MaxInt)},
		{"far from each other", sps(math.MinInt, math.MaxInt, math.MaxInt, math.MinInt, 7, 8), sps(7, 8)},
	} {
		lists(t, "Norm: "+c.what, Norm(c.l...), c.want)
	}
}

func TestP602NormOfSets(t *testing.T) {
	for b := range set(256) {
		for _, l := range b.forms() {
			lists(t, "Norm of a set", Norm(l...), b.spans())
		}
	}
	d := dice(6)
	for range 3000 {
		l := d.list()
		lists(t, "Norm of a list", Norm(l...), setOf(l...).spans())
	}
}

func TestP602Sets(t *testing.T) {
	a, b := sps(0, 5, 8, 12), sps(3, 9, 11, 20)
	for _, c := range []struct {
		what      string
		got, want []api.Span
	}{
		{"Join", Join(a, b), sps(0, 20)},
		{"Minus", Minus(a, b), sps(0, 3, 9, 11)},
		{"Minus the other way", Minus(b, a), sps(5, 8, 12, 20)},
		{"Both", Both(a, b), sps(3, 5, 8, 9, 11, 12)},
		{"Join of none", Join(nil, nil), nil},
		{"Minus of none", Minus(nil, nil), nil},
		{"Both of none", Both(nil, nil), nil},
		{"Join with none", Join(sps(4, 6, 2, 4, 9, 9), nil), sps(2, 6)},
		{"Join of none with some", Join(nil, sps(4, 6, 2, 4, 9, 9)), sps(2, 6)},
		{"Minus none", Minus(sps(4, 6, 2, 4, 9, 9), nil), sps(2, 6)},
		{"Minus what is not valid", Minus(sps(0, 9), sps(-1, 5, 7, 7, 8, 2)), sps(0, 9)},
		{"none Minus some", Minus(nil, a), nil},
		{"Minus itself", Minus(a, a), nil},
		{"Both with none", Both(a, nil), nil},
		{"Both with itself", Both(a, a), a},
		{"Both with what begins below 0", Both(a, sps(-1, 30)), nil},
		{"Both of what touches", Both(sps(0, 3), sps(3, 6)), nil},
		{"Both of touching pieces", Both(sps(0, 9), sps(3, 5, 5, 7)), sps(3, 7)},
		{"Both of touching pieces of both", Both(sps(0, 4, 4, 9), sps(3, 5, 5, 7)), sps(3, 7)},
		{"Minus two holes", Minus(sps(0, 10), sps(2, 4, 6, 8)), sps(0, 2, 4, 6, 8, 10)},
		{"Minus both ends", Minus(sps(0, 10), sps(0, 2, 8, 10)), sps(2, 8)},
		{"Minus all", Minus(sps(3, 5, 7, 8), sps(0, 4, 4, 10)), nil},
		{"Minus the first block of all", Minus(sps(0, math.MaxInt), sps(0, 1)), sps(1, math.MaxInt)},
		{"Minus the last block of all", Minus(sps(0, math.MaxInt), sps(math.MaxInt-1, math.MaxInt)), sps(0, math.MaxInt-1)},
		{"all Minus all", Minus(sps(0, math.MaxInt), sps(0, math.MaxInt)), nil},
		{"Join of two halves", Join(sps(0, 1<<62), sps(1<<62, math.MaxInt)), sps(0, math.MaxInt)},
		{"Both at the end", Both(sps(0, math.MaxInt), sps(math.MaxInt-2, math.MaxInt)), sps(math.MaxInt-2, math.MaxInt)},
	} {
		lists(t, c.what, c.got, c.want)
	}
}

func TestP602SetsOfAll(t *testing.T) {
	pairs(func(a, b []api.Span, sa, sb set) {
		lists(t, "Join", Join(a, b), (sa | sb).spans())
		lists(t, "Minus", Minus(a, b), (sa &^ sb).spans())
		lists(t, "Both", Both(a, b), (sa & sb).spans())
		if Covers(a, b) != (sb&^sa == 0) {
			t.Errorf("Covers(%v, %v): %v", a, b, Covers(a, b))
		}
	})
}

func TestP602SetsOfLists(t *testing.T) {
	d := dice(602)
	for range 3000 {
		a, b := d.list(), d.list()
		sa, sb := setOf(a...), setOf(b...)
		lists(t, "Join", Join(a, b), (sa | sb).spans())
		lists(t, "Minus", Minus(a, b), (sa &^ sb).spans())
		lists(t, "Both", Both(a, b), (sa & sb).spans())
		is(t, "Covers", Covers(a, b), sb&^sa == 0)
		is(t, "Covers what both have", Covers(a, Both(b, a)), true)
		blocks(t, "Blocks", 64, a, sa.blocks(), true)
	}
}

func TestP602Covers(t *testing.T) {
	a := sps(8, 12, 0, 3, 3, 5)
	for _, c := range []struct {
		what string
		a, b []api.Span
		want bool
	}{
		{"itself", a, a, true},
		{"some of each", a, sps(1, 2, 9, 10), true},
		{"across two that touch", a, sps(2, 4), true},
		{"across two with blocks between", a, sps(4, 9), false},
		{"one block more", a, sps(8, 13), false},
		{"one block ahead", a, sps(7, 12), false},
		{"a part and what is outside", a, sps(0, 1, 20, 21), false},
		{"none", a, nil, true},
		{"none of none", nil, nil, true},
		{"some of none", nil, a, false},
		{"what is not valid", a, sps(9, 9, 30, 20, -4, 40), true},
		{"what is not valid, of none", nil, sps(9, 9), true},
		{"by what is not valid", sps(-1, 40), sps(1, 2), false},
		{"all by all", sps(0, math.MaxInt), sps(0, math.MaxInt), true},
		{"all by all but the last", sps(0, math.MaxInt-1), sps(0, math.MaxInt), false},
	} {
		is(t, "Covers: "+c.what, Covers(c.a, c.b), c.want)
	}
}

func TestP602Blocks(t *testing.T) {
	l := sps(3, 5, 4, 6, 0, 1, 7, 7, -2, 9)
	all := []int{0, 3, 4, 5}
	for _, c := range []struct {
		what string
		most int
		l    []api.Span
		want []int
		done bool
	}{
		{"room for more", 9, l, all, true},
		{"room without an end", math.MaxInt, l, all, true},
		{"just as many", 4, l, all, true},
		{"one more than that", 3, l, nil, false},
		{"room for none", 0, l, nil, false},
		{"room below 0", -1, l, nil, false},
		{"none", 5, nil, nil, true},
		{"none, room for none", 0, nil, nil, true},
		{"none, room below 0", -1, nil, nil, false},
		{"none, the least room", math.MinInt, nil, nil, false},
		{"none that is valid", 0, sps(4, 4, 9, 2, -5, 5), nil, true},
		{"the last ones of all", 2, sps(math.MaxInt-2, math.MaxInt), []int{math.MaxInt - 2, math.MaxInt - 1}, true},
		{"one block twice", 1, sps(2, 3, 2, 3), []int{2}, true},
	} {
		blocks(t, "Blocks: "+c.what, c.most, c.l, c.want, c.done)
	}
}

// TestP602BlocksOfFarTooMany asks for more blocks than there is memory for.
func TestP602BlocksOfFarTooMany(t *testing.T) {
	blocks(t, "all", 1<<62, sps(0, math.MaxInt), nil, false)
	blocks(t, "two far parts", math.MaxInt-2, sps(0, 1<<62, 1<<62+1, math.MaxInt), nil, false)
	blocks(t, "many", 1000, sps(0, 1<<31), nil, false)
	blocks(t, "beyond what any answer has", math.MaxInt, sps(0, math.MaxInt), nil, false)
}

// TestNothingIsHandedInAndChanged has lists with room behind them, in which nothing may be written.
func TestNothingIsHandedInAndChanged(t *testing.T) {
	behind := sps(70, 71, 72, 73, 74, 75, 76, 77, 78, 79, 80, 81, 82, 83, 84, 85)
	whole := slices.Concat(sps(9, 12, 0, 2, 1, 4, -3, 2, 6, 7, 4, 5), behind)
	other := slices.Concat(sps(3, 5, 1, 3, 9, 9), behind)
	before, beforeOther := slices.Clone(whole), slices.Clone(other)
	a, b := whole[:6], other[:3]
	Norm(a...)
	Join(a, b)
	Join(b, a)
	Minus(a, b)
	Both(a, b)
	Covers(a, b)
	Blocks(100, a...)
	lists(t, "what was handed in", whole, before)
	lists(t, "the other one", other, beforeOther)
}

// TestAnswersAreNew writes all over an answer, and behind it.
func TestAnswersAreNew(t *testing.T) {
	a, b := sps(0, 5, 8, 12), sps(20, 25)
	calls := []func() []api.Span{
		func() []api.Span { return Norm(a...) },
		func() []api.Span { return Join(a, nil) },
		func() []api.Span { return Join(nil, a) },
		func() []api.Span { return Minus(a, nil) },
		func() []api.Span { return Minus(a, b) },
		func() []api.Span { return Both(a, a) },
		func() []api.Span { return Both(a, sps(0, 99)) },
		func() []api.Span { return Both(sps(0, 99), a) },
	}
	for _, call := range calls {
		first := call()
		lists(t, "an answer", first, sps(0, 5, 8, 12))
		first = append(first, sp(50, 60))
		for k := range first {
			first[k] = sp(7, 9)
		}
		lists(t, "the next answer", call(), sps(0, 5, 8, 12))
		lists(t, "what was handed in", a, sps(0, 5, 8, 12))
	}
	first, _ := Blocks(2, sp(3, 5))
	first[0] = 9
	blocks(t, "Blocks again", 2, sps(3, 5), []int{3, 4}, true)
}

func TestP603JoinAndBothAreCommutative(t *testing.T) {
	pairs(func(a, b []api.Span, _, _ set) {
		lists(t, "Join", Join(a, b), Join(b, a))
		lists(t, "Both", Both(a, b), Both(b, a))
	})
}

func TestP603JoinAndBothAreAssociative(t *testing.T) {
	d := dice(603)
	for range 3000 {
		a, b, c := d.list(), d.list(), d.list()
		lists(t, "Join", Join(Join(a, b), c), Join(a, Join(b, c)))
		lists(t, "Both", Both(Both(a, b), c), Both(a, Both(b, c)))
		lists(t, "Join of three", Join(Join(a, b), c), setOf(slices.Concat(a, b, c)...).spans())
		lists(t, "Both of three", Both(Both(a, b), c), (setOf(a...) & setOf(b...) & setOf(c...)).spans())
	}
}

func TestP603MinusAndBothMakeTheWhole(t *testing.T) {
	whole := func(a, b []api.Span) {
		lists(t, "the parts joined", Join(Minus(a, b), Both(a, b)), Norm(a...))
		lists(t, "the parts apart", Both(Minus(a, b), Both(a, b)), nil)
	}
	pairs(func(a, b []api.Span, _, _ set) { whole(a, b) })
	whole(sps(0, math.MaxInt), sps(5, 9, math.MaxInt-1, math.MaxInt))
	whole(sps(-1, 9, 4, 4), sps(0, math.MaxInt))
}

// TestMany has lists so long that a walk through one of them for each span of the other would be felt.
func TestMany(t *testing.T) {
	const many = 200000
	var even, odd []api.Span
	for k := many - 1; k >= 0; k-- {
		even = append(even, sp(4*k, 4*k+2))
		odd = append(odd, sp(4*k+2, 4*k+4))
	}
	lists(t, "Join", Join(even, odd), sps(0, 4*many))
	lists(t, "Both", Both(even, odd), nil)
	is(t, "Minus", len(Minus(even, odd)), many)
	lists(t, "all Minus", Minus(sps(0, 4*many), even), Norm(odd...))
	is(t, "Covers", Covers(even, odd), false)
	is(t, "all Covers", Covers(sps(0, 4*many), even), true)
	l, done := Blocks(2*many, even...)
	is(t, "Blocks", done && len(l) == 2*many && l[2*many-1] == 4*many-3, true)
}
