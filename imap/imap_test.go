package imap

import (
	"math"
	"slices"
	"testing"

	"commons/api"
)

// is holds one answer against what is wanted.
func is[T comparable](t *testing.T, what string, got, want T) {
	t.Helper()
	if got != want {
		t.Errorf("%s: %v, not %v", what, got, want)
	}
}

// lists holds a list against what is wanted; a nil one and an empty one are the same.
func lists[T comparable](t *testing.T, what string, got, want []T) {
	t.Helper()
	if !slices.Equal(got, want) {
		t.Errorf("%s: %v, not %v", what, got, want)
	}
}

// gets holds what Get tells of a block against what is wanted.
func gets[V comparable](t *testing.T, what string, m *Map[V], block int, want V, wantThere bool) {
	t.Helper()
	got, there := m.Get(block)
	if got != want || there != wantThere {
		t.Errorf("%s: Get(%d): %v, %v, not %v, %v", what, block, got, there, want, wantThere)
	}
}

// has holds all parts of a map against what is wanted.
func has[V comparable](t *testing.T, what string, m *Map[V], want ...Part[V]) {
	t.Helper()
	lists(t, what+": All", m.All(), want)
	is(t, what+": Len", m.Len(), len(want))
}

func sp(from, to int) api.Span { return api.Span{From: from, To: to} }

// part is a part of a map of ints.
func part(from, to, v int) Part[int] { return Part[int]{Span: sp(from, to), Value: v} }

// mapOf sets parts, one behind the other, in a new map.
func mapOf[V comparable](t *testing.T, l ...Part[V]) *Map[V] {
	t.Helper()
	m := New[V]()
	for _, p := range l {
		is(t, "Set", m.Set(p.Span, p.Value), true)
	}
	return m
}

// three is a map of two neighbours, and one apart.
func three(t *testing.T) *Map[int] {
	t.Helper()
	return mapOf(t, part(2, 5, 1), part(5, 8, 2), part(10, 14, 1))
}

// notValid tells spans that are not valid, of all kinds.
func notValid() []api.Span {
	return []api.Span{
		sp(0, 0), sp(3, 3), sp(5, 3), sp(7, 0), sp(-1, 5), sp(-1, 0), sp(-5, -1), sp(0, -1), sp(-1, math.MaxInt),
		sp(math.MaxInt, math.MaxInt), sp(math.MaxInt, 0), sp(math.MaxInt, math.MinInt), sp(math.MinInt, math.MaxInt), sp(math.MinInt, math.MinInt),
	}
}

func TestP701Examples(t *testing.T) {
	m := New[int]()
	has(t, "New", m)
	is(t, "Set", m.Set(sp(0, 9), 1), true)
	is(t, "Set inside", m.Set(sp(3, 5), 2), true)
	has(t, "the example", m, part(0, 3, 1), part(3, 5, 2), part(5, 9, 1))
}

func TestP701Set(t *testing.T) {
	for _, c := range []struct {
		what string
		s    api.Span
		v    int
		want []Part[int]
	}{
		{"ahead of all, apart", sp(0, 1), 1, []Part[int]{part(0, 1, 1), part(2, 5, 1), part(5, 8, 2), part(10, 14, 1)}},
		{"ahead of all, touching, the same", sp(0, 2), 1, []Part[int]{part(0, 5, 1), part(5, 8, 2), part(10, 14, 1)}},
		{"ahead of all, touching, another", sp(0, 2), 2, []Part[int]{part(0, 2, 2), part(2, 5, 1), part(5, 8, 2), part(10, 14, 1)}},
		{"behind all, apart", sp(15, 16), 1, []Part[int]{part(2, 5, 1), part(5, 8, 2), part(10, 14, 1), part(15, 16, 1)}},
		{"behind all, touching, the same", sp(14, 16), 1, []Part[int]{part(2, 5, 1), part(5, 8, 2), part(10, 16, 1)}},
		{"behind all, touching, another", sp(14, 16), 2, []Part[int]{part(2, 5, 1), part(5, 8, 2), part(10, 14, 1), part(14, 16, 2)}},
		{"the gap, as neither is", sp(8, 10), 3, []Part[int]{part(2, 5, 1), part(5, 8, 2), part(8, 10, 3), part(10, 14, 1)}},
		{"the gap, as the one ahead", sp(8, 10), 2, []Part[int]{part(2, 5, 1), part(5, 10, 2), part(10, 14, 1)}},
		{"the gap, as the one behind", sp(8, 10), 1, []Part[int]{part(2, 5, 1), part(5, 8, 2), part(8, 14, 1)}},
		{"a piece of the gap", sp(8, 9), 1, []Part[int]{part(2, 5, 1), part(5, 8, 2), part(8, 9, 1), part(10, 14, 1)}},
		{"the middle one, as its neighbour", sp(5, 8), 1, []Part[int]{part(2, 8, 1), part(10, 14, 1)}},
		{"the middle one and the gap, as both", sp(5, 10), 1, []Part[int]{part(2, 14, 1)}},
		{"a piece of one", sp(11, 12), 2, []Part[int]{part(2, 5, 1), part(5, 8, 2), part(10, 11, 1), part(11, 12, 2), part(12, 14, 1)}},
		{"a piece of one, the same", sp(11, 12), 1, []Part[int]{part(2, 5, 1), part(5, 8, 2), part(10, 14, 1)}},
		{"the first piece of one", sp(10, 12), 2, []Part[int]{part(2, 5, 1), part(5, 8, 2), part(10, 12, 2), part(12, 14, 1)}},
		{"the last piece of one", sp(12, 14), 2, []Part[int]{part(2, 5, 1), part(5, 8, 2), part(10, 12, 1), part(12, 14, 2)}},
		{"across two, as the first", sp(4, 6), 1, []Part[int]{part(2, 6, 1), part(6, 8, 2), part(10, 14, 1)}},
		{"across two, as the second", sp(4, 6), 2, []Part[int]{part(2, 4, 1), part(4, 8, 2), part(10, 14, 1)}},
		{"across all", sp(3, 12), 0, []Part[int]{part(2, 3, 1), part(3, 12, 0), part(12, 14, 1)}},
		{"over all", sp(0, 20), 7, []Part[int]{part(0, 20, 7)}},
		{"all there are", sp(0, math.MaxInt), 1, []Part[int]{part(0, math.MaxInt, 1)}},
		{"the last block there is", sp(math.MaxInt-1, math.MaxInt), 1, []Part[int]{part(2, 5, 1), part(5, 8, 2), part(10, 14, 1), part(math.MaxInt-1, math.MaxInt, 1)}},
	} {
		m := three(t)
		is(t, "Set: "+c.what, m.Set(c.s, c.v), true)
		has(t, "Set: "+c.what, m, c.want...)
	}
}

// TestP701CutsOfAll takes pieces out of all blocks there are.
func TestP701CutsOfAll(t *testing.T) {
	m := mapOf(t, part(0, math.MaxInt, 1))
	is(t, "Set inside", m.Set(sp(3, 5), 2), true)
	has(t, "all else is left", m, part(0, 3, 1), part(3, 5, 2), part(5, math.MaxInt, 1))
	is(t, "Clear of the first", m.Clear(sp(0, 1)), true)
	is(t, "Clear of the last", m.Clear(sp(math.MaxInt-1, math.MaxInt)), true)
	has(t, "all else is left again", m, part(1, 3, 1), part(3, 5, 2), part(5, math.MaxInt-1, 1))
	is(t, "Swap behind a far block", m.Swap(sp(1<<62, math.MaxInt), 1, 3), 1<<62-2)
	has(t, "all else stays", m, part(1, 3, 1), part(3, 5, 2), part(5, 1<<62, 1), part(1<<62, math.MaxInt-1, 3))
}

func TestP701SetOfZeroValues(t *testing.T) {
	m := mapOf(t, part(3, 5, 0))
	has(t, "a zero is a value", m, part(3, 5, 0))
	gets(t, "a zero", m, 3, 0, true)
	gets(t, "none", m, 5, 0, false)
	lists(t, "With of a zero", m.With(0), []api.Span{sp(3, 5)})
}

func TestP701Clear(t *testing.T) {
	for _, c := range []struct {
		what string
		s    api.Span
		want []Part[int]
	}{
		{"one", sp(5, 8), []Part[int]{part(2, 5, 1), part(10, 14, 1)}},
		{"a piece of one", sp(11, 12), []Part[int]{part(2, 5, 1), part(5, 8, 2), part(10, 11, 1), part(12, 14, 1)}},
		{"the ends of two", sp(4, 6), []Part[int]{part(2, 4, 1), part(6, 8, 2), part(10, 14, 1)}},
		{"the gap", sp(8, 10), []Part[int]{part(2, 5, 1), part(5, 8, 2), part(10, 14, 1)}},
		{"ahead of all", sp(0, 2), []Part[int]{part(2, 5, 1), part(5, 8, 2), part(10, 14, 1)}},
		{"behind all", sp(14, 99), []Part[int]{part(2, 5, 1), part(5, 8, 2), part(10, 14, 1)}},
		{"across all", sp(3, 13), []Part[int]{part(2, 3, 1), part(13, 14, 1)}},
		{"all", sp(2, 14), nil},
		{"all there are", sp(0, math.MaxInt), nil},
	} {
		m := three(t)
		is(t, "Clear: "+c.what, m.Clear(c.s), true)
		has(t, "Clear: "+c.what, m, c.want...)
	}
	m := New[int]()
	is(t, "Clear of none", m.Clear(sp(0, 5)), true)
	has(t, "Clear of none", m)
}

// TestP701SpansThatAreNotValid change nothing, and have nothing.
func TestP701SpansThatAreNotValid(t *testing.T) {
	m := three(t)
	for _, s := range notValid() {
		for _, v := range []int{0, 1, 2, 9} {
			is(t, "Set", m.Set(s, v), false)
			is(t, "Swap", m.Swap(s, v, 3), 0)
			is(t, "Swap with itself", m.Swap(s, v, v), 0)
		}
		is(t, "Clear", m.Clear(s), false)
		lists(t, "Parts", m.Parts(s), nil)
		has(t, "nothing changed", m, part(2, 5, 1), part(5, 8, 2), part(10, 14, 1))
	}
}

func TestP701Get(t *testing.T) {
	m := three(t)
	for b := range 20 {
		switch {
		case b >= 2 && b < 5 || b >= 10 && b < 14:
			gets(t, "three", m, b, 1, true)
		case b >= 5 && b < 8:
			gets(t, "three", m, b, 2, true)
		default:
			gets(t, "three", m, b, 0, false)
		}
	}
	whole := mapOf(t, part(0, math.MaxInt, 7))
	gets(t, "the first of all", whole, 0, 7, true)
	gets(t, "the last of all", whole, math.MaxInt-1, 7, true)
	for _, m := range []*Map[int]{New[int](), m, whole} {
		for _, b := range []int{-1, -2, math.MinInt, math.MinInt + 1, math.MaxInt} {
			gets(t, "no block", m, b, 0, false)
		}
	}
}

func TestP701Parts(t *testing.T) {
	m := three(t)
	for _, c := range []struct {
		s    api.Span
		want []Part[int]
	}{
		{sp(0, 99), []Part[int]{part(2, 5, 1), part(5, 8, 2), part(10, 14, 1)}},
		{sp(0, math.MaxInt), []Part[int]{part(2, 5, 1), part(5, 8, 2), part(10, 14, 1)}},
		{sp(2, 14), []Part[int]{part(2, 5, 1), part(5, 8, 2), part(10, 14, 1)}},
		{sp(3, 13), []Part[int]{part(3, 5, 1), part(5, 8, 2), part(10, 13, 1)}},
		{sp(5, 8), []Part[int]{part(5, 8, 2)}},
		{sp(4, 6), []Part[int]{part(4, 5, 1), part(5, 6, 2)}},
		{sp(6, 7), []Part[int]{part(6, 7, 2)}},
		{sp(6, 9), []Part[int]{part(6, 8, 2)}},
		{sp(9, 11), []Part[int]{part(10, 11, 1)}},
		{sp(8, 10), nil},
		{sp(0, 2), nil},
		{sp(14, 15), nil},
		{sp(math.MaxInt-1, math.MaxInt), nil},
	} {
		lists(t, "Parts", m.Parts(c.s), c.want)
		has(t, "nothing changed", m, part(2, 5, 1), part(5, 8, 2), part(10, 14, 1))
	}
	lists(t, "Parts of none", New[int]().Parts(sp(0, 9)), nil)
}

func TestP701With(t *testing.T) {
	m := three(t)
	lists(t, "With of two", m.With(1), []api.Span{sp(2, 5), sp(10, 14)})
	lists(t, "With of one", m.With(2), []api.Span{sp(5, 8)})
	lists(t, "With of none", m.With(3), nil)
	lists(t, "With of the zero value", m.With(0), nil)
	lists(t, "With of an empty map", New[int]().With(0), nil)
}

func TestP701Swap(t *testing.T) {
	for _, c := range []struct {
		what     string
		s        api.Span
		from, to int
		n        int
		want     []Part[int]
	}{
		{"all of them", sp(0, 99), 1, 3, 7, []Part[int]{part(2, 5, 3), part(5, 8, 2), part(10, 14, 3)}},
		{"all there are", sp(0, math.MaxInt), 1, 3, 7, []Part[int]{part(2, 5, 3), part(5, 8, 2), part(10, 14, 3)}},
		{"as the neighbour", sp(0, 99), 2, 1, 3, []Part[int]{part(2, 8, 1), part(10, 14, 1)}},
		{"pieces of two", sp(4, 12), 1, 3, 3, []Part[int]{part(2, 4, 1), part(4, 5, 3), part(5, 8, 2), part(10, 12, 3), part(12, 14, 1)}},
		{"a piece as the neighbour", sp(4, 5), 1, 2, 1, []Part[int]{part(2, 4, 1), part(4, 8, 2), part(10, 14, 1)}},
		{"a piece inside of one", sp(6, 7), 2, 1, 1, []Part[int]{part(2, 5, 1), part(5, 6, 2), part(6, 7, 1), part(7, 8, 2), part(10, 14, 1)}},
		{"with itself", sp(0, 99), 1, 1, 7, []Part[int]{part(2, 5, 1), part(5, 8, 2), part(10, 14, 1)}},
		{"a piece with itself", sp(3, 6), 1, 1, 2, []Part[int]{part(2, 5, 1), part(5, 8, 2), part(10, 14, 1)}},
		{"what is not there", sp(0, 99), 9, 1, 0, []Part[int]{part(2, 5, 1), part(5, 8, 2), part(10, 14, 1)}},
		{"what is elsewhere", sp(8, 14), 2, 1, 0, []Part[int]{part(2, 5, 1), part(5, 8, 2), part(10, 14, 1)}},
		{"the zero value, which none has", sp(0, 99), 0, 1, 0, []Part[int]{part(2, 5, 1), part(5, 8, 2), part(10, 14, 1)}},
		{"to the zero value", sp(0, 99), 2, 0, 3, []Part[int]{part(2, 5, 1), part(5, 8, 0), part(10, 14, 1)}},
		{"the gap", sp(8, 10), 1, 2, 0, []Part[int]{part(2, 5, 1), part(5, 8, 2), part(10, 14, 1)}},
	} {
		m := three(t)
		is(t, "Swap: "+c.what, m.Swap(c.s, c.from, c.to), c.n)
		has(t, "Swap: "+c.what, m, c.want...)
	}
	whole := mapOf(t, part(0, math.MaxInt, 1))
	is(t, "Swap of all blocks", whole.Swap(sp(0, math.MaxInt), 1, 2), math.MaxInt)
	has(t, "Swap of all blocks", whole, part(0, math.MaxInt, 2))
}

// TestP701SwapOfMany has neighbours that all become one.
func TestP701SwapOfMany(t *testing.T) {
	m := New[int]()
	for b := range 40 {
		m.Set(sp(b, b+1), b%2)
	}
	is(t, "Len", m.Len(), 40)
	is(t, "Swap of a piece", m.Swap(sp(10, 20), 1, 0), 5)
	is(t, "Len", m.Len(), 30) // the ten are one, and block 20, which had 0 before, is one with them
	is(t, "Swap of all", m.Swap(sp(0, 40), 1, 0), 15)
	has(t, "one", m, part(0, 40, 0))
}

// model has the value of each of some blocks; there is none at 0.
type model [24]int

// parts tells the only list, rising and as short as it can be, of the blocks of a span.
func (w *model) parts(s api.Span) []Part[int] {
	var l []Part[int]
	for b := max(s.From, 0); b < min(s.To, len(w)); b++ {
		if w[b] == 0 {
			continue
		}
		last := len(l) - 1
		if last >= 0 && l[last].Span.To == b && l[last].Value == w[b] {
			l[last].Span.To++
		} else {
			l = append(l, part(b, b+1, w[b]))
		}
	}
	return l
}

// with tells the spans that have a value.
func (w *model) with(v int) []api.Span {
	var l []api.Span
	for _, p := range w.parts(sp(0, len(w))) {
		if p.Value == v {
			l = append(l, p.Span)
		}
	}
	return l
}

// put gives the blocks of a span that have one of some values another one: how many.
func (w *model) put(s api.Span, to int, from ...int) int {
	n := 0
	for b := s.From; b < s.To; b++ {
		if slices.Contains(from, w[b]) {
			w[b] = to
			n++
		}
	}
	return n
}

// check asks a map all that can be asked of it.
func (w *model) check(t *testing.T, m *Map[int]) {
	t.Helper()
	has(t, "the model", m, w.parts(sp(0, len(w)))...)
	for b, v := range w {
		gets(t, "the model", m, b, v, v != 0)
	}
	for v := range 5 {
		lists(t, "With", m.With(v), w.with(v))
	}
}

// dice tells numbers that look thrown, the same each time.
type dice uint32

func (d *dice) next(n int) int {
	*d = *d*1664525 + 1013904223
	return int(*d>>8) % n
}

// span throws a valid span of the model's blocks.
func (d *dice) span() api.Span {
	n := len(model{})
	from := d.next(n)
	return sp(from, from+1+d.next(n-from))
}

// TestP701Model does what is thrown to maps and to a plain list of blocks.
func TestP701Model(t *testing.T) {
	d := dice(701)
	for range 60 {
		var w model
		m := New[int]()
		for range 60 {
			s, v, to := d.span(), 1+d.next(3), 1+d.next(3)
			switch d.next(5) {
			case 0:
				is(t, "Clear", m.Clear(s), true)
				w.put(s, 0, 0, 1, 2, 3)
			case 1, 2:
				is(t, "Swap", m.Swap(s, v, to), w.put(s, to, v))
			default:
				is(t, "Set", m.Set(s, v), true)
				w.put(s, v, 0, 1, 2, 3)
			}
			w.check(t, m)
			s = d.span()
			lists(t, "Parts", m.Parts(s), w.parts(s))
		}
	}
}

// TestP701PartsMakeTheWhole lays the parts of a map, in any order, into another one: they are the same.
func TestP701PartsMakeTheWhole(t *testing.T) {
	d := dice(7)
	for range 300 {
		m := New[int]()
		for range 12 {
			m.Set(d.span(), 1+d.next(3))
		}
		back := m.All()
		slices.Reverse(back)
		has(t, "laid anew", mapOf(t, back...), m.All()...)
		s := d.span()
		inside := m.Parts(s)
		is(t, "Clear of all ahead", m.Clear(sp(0, s.From)), s.From > 0)
		is(t, "Clear of all behind", m.Clear(sp(s.To, math.MaxInt)), true)
		has(t, "what is left", m, inside...)
	}
}

func TestP702Zero(t *testing.T) {
	var m Map[string]
	has(t, "zero", &m)
	gets(t, "zero", &m, 0, "", false)
	lists(t, "zero: Parts", m.Parts(sp(0, 9)), nil)
	lists(t, "zero: With", m.With(""), nil)
	is(t, "zero: Swap", m.Swap(sp(0, 9), "", "a"), 0)
	is(t, "zero: Clear", m.Clear(sp(0, 9)), true)
	is(t, "zero: Clear of what is not valid", m.Clear(sp(9, 0)), false)
	is(t, "zero: Set of what is not valid", m.Set(sp(9, 0), "a"), false)
	is(t, "zero: Set", m.Set(sp(0, 9), "a"), true)
	has(t, "it was zero", &m, Part[string]{sp(0, 9), "a"})
	gets(t, "it was zero", &m, 8, "a", true)
}

func TestP702Nil(t *testing.T) {
	var m *Map[int]
	for _, s := range append(notValid(), sp(0, 1), sp(3, 9), sp(0, math.MaxInt)) {
		is(t, "nil: Set", m.Set(s, 1), false)
		is(t, "nil: Clear", m.Clear(s), false)
		is(t, "nil: Swap", m.Swap(s, 0, 1), 0)
		lists(t, "nil: Parts", m.Parts(s), nil)
		gets(t, "nil", m, s.From, 0, false)
	}
	lists(t, "nil: With", m.With(0), nil)
	has(t, "nil", m)
}

// TestAnswersAreNew writes all over answers, and behind them.
func TestAnswersAreNew(t *testing.T) {
	m := three(t)
	for range 2 {
		for _, l := range [][]Part[int]{m.All(), m.Parts(sp(0, 99)), m.Parts(sp(2, 14))} {
			lists(t, "an answer", l, []Part[int]{part(2, 5, 1), part(5, 8, 2), part(10, 14, 1)})
			l = append(l, part(50, 60, 9))
			for k := range l {
				l[k] = part(7, 9, 7)
			}
		}
		spans := append(m.With(1), sp(50, 60))
		for k := range spans {
			spans[k] = sp(7, 9)
		}
		has(t, "behind it", m, part(2, 5, 1), part(5, 8, 2), part(10, 14, 1))
	}
	all, some := m.All(), m.Parts(sp(0, 9))
	m.Set(sp(0, 4), 5)
	m.Swap(sp(0, 99), 1, 6)
	m.Clear(sp(11, 12))
	lists(t, "an answer of before", all, []Part[int]{part(2, 5, 1), part(5, 8, 2), part(10, 14, 1)})
	lists(t, "some of before", some, []Part[int]{part(2, 5, 1), part(5, 8, 2)})
}

// TestCopiesGoOnApart changes a map and what was copied from it by value, in turns.
func TestCopiesGoOnApart(t *testing.T) {
	m := three(t)
	c := *m
	m.Set(sp(5, 8), 3)
	has(t, "the copy of before", &c, part(2, 5, 1), part(5, 8, 2), part(10, 14, 1))
	c.Swap(sp(0, 99), 1, 4)
	c.Set(sp(20, 21), 4)
	has(t, "the first one", m, part(2, 5, 1), part(5, 8, 3), part(10, 14, 1))
	m.Set(sp(30, 31), 5)
	m.Clear(sp(0, 10))
	has(t, "the copy", &c, part(2, 5, 4), part(5, 8, 2), part(10, 14, 4), part(20, 21, 4))
	has(t, "the first one at the end", m, part(10, 14, 1), part(30, 31, 5))
}

// TestValuesThatAreNotEqualToThemselves are there, and the same as none.
func TestValuesThatAreNotEqualToThemselves(t *testing.T) {
	no := math.NaN()
	m := New[float64]()
	is(t, "Set", m.Set(sp(0, 5), no), true)
	is(t, "Len", m.Len(), 1)
	is(t, "Set of a piece", m.Set(sp(2, 3), no), true)
	is(t, "neighbours are not the same", m.Len(), 3)
	lists(t, "With", m.With(no), nil)
	is(t, "Swap", m.Swap(sp(0, 9), no, 1), 0)
	v, there := m.Get(4)
	is(t, "Get", there && v != v, true)
	is(t, "Clear", m.Clear(sp(1, 9)), true)
	is(t, "Len when some are gone", m.Len(), 1)
	is(t, "Set of all", m.Set(sp(0, 5), 2), true)
	has(t, "another one", m, Part[float64]{sp(0, 5), 2})
	is(t, "Swap to it", m.Swap(sp(0, 2), 2, no), 2)
	is(t, "Swap to the same as ahead of it", m.Swap(sp(2, 3), 2, no), 1)
	is(t, "Len at the end", m.Len(), 3)
}

// TestValuesThatHaveNoEquality are there, and nothing panics.
func TestValuesThatHaveNoEquality(t *testing.T) {
	type box struct{ in any }
	for _, v := range []any{[]int{1}, map[int]int{}, func() {}, box{[]int{1}}} {
		m := New[any]()
		is(t, "Set", m.Set(sp(0, 5), v), true)
		is(t, "Set again", m.Set(sp(5, 9), v), true)
		is(t, "neighbours are not the same", m.Len(), 2)
		_, there := m.Get(7)
		is(t, "Get", there, true)
		lists(t, "With", m.With(v), nil)
		is(t, "Swap", m.Swap(sp(0, 9), v, 1), 0)
		is(t, "Set of another", m.Set(sp(3, 6), "a"), true)
		is(t, "Swap of another", m.Swap(sp(0, 9), "a", v), 3)
		is(t, "Clear", m.Clear(sp(1, 9)), true)
		is(t, "Len", len(m.All()), 1)
		is(t, "Set of nil", m.Set(sp(0, 9), nil), true)
		lists(t, "With of nil", m.With(nil), []api.Span{sp(0, 9)})
	}
}

// TestAnyTypes has values of many types.
func TestAnyTypes(t *testing.T) {
	type lock struct {
		node [2]byte
		mode string
	}
	a, b := lock{[2]byte{1, 2}, "shared"}, lock{[2]byte{1, 3}, "shared"}
	m := mapOf(t, Part[lock]{sp(0, 3), a}, Part[lock]{sp(3, 5), b}, Part[lock]{sp(5, 8), b})
	has(t, "structs", m, Part[lock]{sp(0, 3), a}, Part[lock]{sp(3, 8), b})
	is(t, "Swap of structs", m.Swap(sp(2, 6), b, a), 3)
	has(t, "structs behind Swap", m, Part[lock]{sp(0, 6), a}, Part[lock]{sp(6, 8), b})

	x, y := 1, 1
	p := mapOf(t, Part[*int]{sp(0, 3), &x}, Part[*int]{sp(3, 5), &y}, Part[*int]{sp(5, 6), nil})
	is(t, "pointers are compared, not what they point to", p.Len(), 3)
	lists(t, "With of nil", p.With(nil), []api.Span{sp(5, 6)})

	f := mapOf(t, Part[bool]{sp(0, 3), false}, Part[bool]{sp(3, 5), true})
	is(t, "Swap of bools", f.Swap(sp(0, 9), true, false), 2)
	has(t, "bools", f, Part[bool]{sp(0, 5), false})

	n := mapOf(t, Part[struct{}]{Span: sp(4, 6)}, Part[struct{}]{Span: sp(0, 4)})
	has(t, "values of no bytes", n, Part[struct{}]{Span: sp(0, 6)})
}

// TestMany has so many parts that a walk through them for each block would be felt.
func TestMany(t *testing.T) {
	const many = api.MaxBlocks
	m := New[int]()
	for k := many - 1; k >= 0; k-- {
		m.Set(sp(2*k, 2*k+1), k)
	}
	is(t, "Len", m.Len(), many)
	for k := range many {
		gets(t, "a block", m, 2*k, k, true)
		gets(t, "between", m, 2*k+1, 0, false)
		lists(t, "Parts", m.Parts(sp(2*k, 2*k+2)), []Part[int]{part(2*k, 2*k+1, k)})
	}
	for k := range many {
		m.Set(sp(2*k, 2*k+2), 7)
	}
	has(t, "all are one", m, part(0, 2*many, 7))
}
