package heap

import (
	"cmp"
	"math"
	"slices"
	"strings"
	"testing"
)

// is holds one answer against what is wanted.
func is[T comparable](t *testing.T, what string, got, want T) {
	t.Helper()
	if got != want {
		t.Errorf("%s: %v, not %v", what, got, want)
	}
}

// tells holds a value and whether it is there against what is wanted.
func tells[T comparable](t *testing.T, what string, got T, there bool, want T, wantThere bool) {
	t.Helper()
	if got != want || there != wantThere {
		t.Errorf("%s: %v, %v, not %v, %v", what, got, there, want, wantThere)
	}
}

// takes holds what Take tells against what is wanted.
func takes[T comparable](t *testing.T, what string, h *Heap[T], now int, want T, wantThere bool) {
	t.Helper()
	v, there := h.Take(now)
	tells(t, what, v, there, want, wantThere)
}

// stands is what a value that waits is known by: its time, its id, itself.
type stands[T comparable] struct {
	at, id int
	v      T
}

// has holds all that can be asked of h against what waits, in the order of telling.
func has[T comparable](t *testing.T, what string, h *Heap[T], want ...stands[T]) {
	t.Helper()
	is(t, what+": Len", h.Len(), len(want))
	var values []T
	for _, w := range want {
		values = append(values, w.v)
		at, there := h.At(w.id)
		tells(t, what+": At", at, there, w.at, true)
	}
	if l := h.List(); !slices.Equal(l, values) {
		t.Errorf("%s: List: %v, not %v", what, l, values)
	}
	var first stands[T]
	if len(want) > 0 {
		first = want[0]
	}
	at, v, there := h.First()
	tells(t, what+": First", v, there, first.v, len(want) > 0)
	is(t, what+": First's time", at, first.at)
	for _, id := range []int{math.MinInt, -1, 0, math.MaxInt} {
		at, there := h.At(id)
		tells(t, what+": At of no id", at, there, 0, false)
	}
}

func TestP401Examples(t *testing.T) {
	h := New[string]()
	is(t, "Put", h.Put(5, "a"), 1)
	is(t, "Put of the next", h.Put(3, "b"), 2)
	takes(t, "Take", h, 4, "b", true)
	takes(t, "Take of what is not due", h, 4, "", false)
	has(t, "the other waits", h, stands[string]{5, 1, "a"})
}

func TestP401PutTellsIds(t *testing.T) {
	h, other := New[int](), New[int]()
	is(t, "the first id", h.Put(9, 0), 1)
	is(t, "the next id", h.Put(9, 0), 2)
	is(t, "the first id of another heap", other.Put(9, 0), 1)
	h.Take(9)
	is(t, "an id behind Take", h.Put(9, 0), 3)
	h.Cancel(3)
	is(t, "an id behind Cancel of the last one", h.Put(9, 0), 4)
	h.Cancel(2)
	h.Cancel(4)
	is(t, "an id of an empty heap", h.Put(9, 0), 5)
	is(t, "the next id of another heap", other.Put(9, 0), 2)
}

func TestP401First(t *testing.T) {
	h := New[string]()
	has(t, "nothing", h)
	h.Put(7, "a")
	has(t, "one", h, stands[string]{7, 1, "a"})
	h.Put(7, "b")
	has(t, "one of the same time", h, stands[string]{7, 1, "a"}, stands[string]{7, 2, "b"})
	h.Put(6, "c")
	has(t, "an earlier one", h, stands[string]{6, 3, "c"}, stands[string]{7, 1, "a"}, stands[string]{7, 2, "b"})
	h.Put(8, "d")
	has(t, "a later one", h, stands[string]{6, 3, "c"}, stands[string]{7, 1, "a"}, stands[string]{7, 2, "b"}, stands[string]{8, 4, "d"})
}

func TestP401OneTimeGoesById(t *testing.T) {
	h := New[int]()
	for k := range 50 {
		h.Put(3, k)
	}
	for k := range 50 {
		takes(t, "Take of one time", h, 3, k, true)
		if k%3 == 0 {
			h.Put(3, 50) // stands behind all of a lesser id
		}
	}
	takes(t, "Take of what came later", h, 3, 50, true)
}

func TestP401Take(t *testing.T) {
	h := New[string]()
	takes(t, "Take of an empty one", h, math.MaxInt, "", false)
	h.Put(5, "a")
	takes(t, "Take ahead of its time", h, 4, "", false)
	takes(t, "Take long ahead of its time", h, math.MinInt, "", false)
	has(t, "it waits still", h, stands[string]{5, 1, "a"})
	takes(t, "Take at its time", h, 5, "a", true)
	has(t, "it is gone", h)
	takes(t, "Take again", h, 5, "", false)
	h.Put(5, "b")
	takes(t, "Take behind its time", h, 6, "b", true)
	h.Put(5, "")
	takes(t, "Take of an empty value", h, math.MaxInt, "", true)
	is(t, "Len", h.Len(), 0)
}

func TestP401TimesFromEndToEnd(t *testing.T) {
	h := New[string]()
	h.Put(math.MaxInt, "f")
	h.Put(0, "d")
	h.Put(math.MinInt, "a")
	h.Put(-1, "c")
	h.Put(1, "e")
	h.Put(math.MinInt+1, "b")
	has(t, "all", h,
		stands[string]{math.MinInt, 3, "a"}, stands[string]{math.MinInt + 1, 6, "b"}, stands[string]{-1, 4, "c"},
		stands[string]{0, 2, "d"}, stands[string]{1, 5, "e"}, stands[string]{math.MaxInt, 1, "f"})
	takes(t, "Take at the least time", h, math.MinInt, "a", true)
	takes(t, "Take at the least time again", h, math.MinInt, "", false)
	takes(t, "Take at -1", h, -1, "b", true)
	takes(t, "Take at -1 again", h, -1, "c", true)
	takes(t, "Take at -1 once more", h, -1, "", false)
	takes(t, "Take at the greatest but one", h, math.MaxInt-1, "d", true)
	takes(t, "Take at the greatest but one again", h, math.MaxInt-1, "e", true)
	takes(t, "Take at the greatest but one once more", h, math.MaxInt-1, "", false)
	takes(t, "Take at the greatest", h, math.MaxInt, "f", true)
	has(t, "none", h)
}

func TestP401Cancel(t *testing.T) {
	h := New[string]()
	is(t, "Cancel in an empty one", h.Cancel(1), false)
	h.Put(4, "a")
	h.Put(2, "b")
	h.Put(3, "c")
	for _, id := range []int{math.MinInt, -1, 0, 4, 5, math.MaxInt} {
		is(t, "Cancel of no id", h.Cancel(id), false)
		has(t, "nothing changed", h, stands[string]{2, 2, "b"}, stands[string]{3, 3, "c"}, stands[string]{4, 1, "a"})
	}
	is(t, "Cancel", h.Cancel(3), true)
	is(t, "Cancel again", h.Cancel(3), false)
	at, there := h.At(3)
	tells(t, "At of what is gone", at, there, 0, false)
	has(t, "two are left", h, stands[string]{2, 2, "b"}, stands[string]{4, 1, "a"})
	is(t, "Cancel of the first", h.Cancel(2), true)
	has(t, "one is left", h, stands[string]{4, 1, "a"})
	takes(t, "Take of what is left", h, 4, "a", true)
	is(t, "Cancel of what was taken", h.Cancel(1), false)
	at, there = h.At(1)
	tells(t, "At of what was taken", at, there, 0, false)
	has(t, "none", h)
}

// TestP401CancelOfEach takes each one out of heaps of many shapes: what moves to its place may belong above it or below it.
func TestP401CancelOfEach(t *testing.T) {
	for _, times := range [][]int{
		{0, 10, 1, 11, 12, 2, 3},
		{0, 10, 1, 11, 12, 2, 3, 13, 14, 15},
		{1, 2, 3, 4, 5, 6, 7, 8},
		{8, 7, 6, 5, 4, 3, 2, 1},
		{5, 5, 5, 5, 5, 5},
		{0, 9, 1, 9, 9, 1, 1, 9, 9, 9, 9, 1},
	} {
		for gone := range times {
			h, want := New[int](), []stands[int]{}
			for k, at := range times {
				h.Put(at, 100+k)
				if k != gone {
					want = append(want, stands[int]{at, k + 1, 100 + k})
				}
			}
			slices.SortStableFunc(want, func(a, b stands[int]) int { return cmp.Compare(a.at, b.at) })
			is(t, "Cancel", h.Cancel(gone+1), true)
			for len(want) > 0 {
				has(t, "what is left", h, want...)
				takes(t, "Take of the next", h, want[0].at, want[0].v, true)
				want = want[1:]
			}
			has(t, "none", h)
		}
	}
}

func TestP401ListIsNew(t *testing.T) {
	h := New[int]()
	h.Put(2, 20)
	h.Put(1, 10)
	h.Put(3, 30)
	a, b := h.List(), h.List()
	a[0] = 99
	a = append(a, 99)
	if !slices.Equal(b, []int{10, 20, 30}) {
		t.Errorf("the other list: %v", b)
	}
	has(t, "a list was changed", h, stands[int]{1, 2, 10}, stands[int]{2, 1, 20}, stands[int]{3, 3, 30})
	h.Take(3)
	h.Put(0, 5)
	if !slices.Equal(b, []int{10, 20, 30}) {
		t.Errorf("the list of before: %v", b)
	}
}

func TestP401AskingChangesNothing(t *testing.T) {
	h := New[int]()
	for k := range 20 {
		h.Put(k*7%20, k)
	}
	want := h.List()
	for range 3 {
		h.First()
		h.At(3)
		h.Len()
		if l := h.List(); !slices.Equal(l, want) {
			t.Fatalf("List: %v, not %v", l, want)
		}
	}
	for _, v := range want {
		takes(t, "Take in the order of the list", h, 20, v, true)
	}
}

func TestP401KeepsNothingThatIsGone(t *testing.T) {
	h := New[*int]()
	for round := range 9 {
		for k := range 8 {
			h.Put(k*5%8, new(int))
		}
		for k := range 8 {
			if (k+round)%3 == 0 {
				h.Cancel(8*round + k + 1)
			}
		}
		for h.Len() > 0 {
			h.Take(8)
		}
		for _, it := range h.pile.items[:cap(h.pile.items)] {
			is(t, "a value that is gone", it.value, nil)
		}
		is(t, "places of what is gone", len(h.pile.places), 0)
	}
}

// TestP401Rounds holds heaps against plain lists, through many calls.
func TestP401Rounds(t *testing.T) {
	for _, span := range []int{1, 3, 20, 1 << 20} {
		h, want, last := New[int](), []stands[int]{}, 0
		seed := uint32(span)
		next := func(n int) int {
			seed = seed*1664525 + 1013904223
			return int(seed>>8) % n
		}
		for range 3000 {
			switch next(8) {
			case 0, 1, 2, 3:
				at := next(span) - span/2
				last++
				is(t, "Put", h.Put(at, -last), last)
				want = append(want, stands[int]{at, last, -last})
				slices.SortStableFunc(want, func(a, b stands[int]) int { return cmp.Compare(a.at, b.at) })
			case 4, 5:
				now := next(span) - span/2
				if len(want) > 0 && want[0].at <= now {
					takes(t, "Take of what is due", h, now, want[0].v, true)
					want = want[1:]
				} else {
					takes(t, "Take of what is not due", h, now, 0, false)
				}
			default:
				id := next(last+2) + 1
				k := slices.IndexFunc(want, func(s stands[int]) bool { return s.id == id })
				is(t, "Cancel", h.Cancel(id), k >= 0)
				if k >= 0 {
					want = slices.Delete(want, k, k+1)
				}
			}
			if next(10) == 0 {
				has(t, "after a call", h, want...)
			}
			is(t, "Len after a call", h.Len(), len(want))
		}
		has(t, "at the end", h, want...)
		for _, s := range want {
			takes(t, "Take of all", h, s.at, s.v, true)
		}
		has(t, "none", h)
	}
}

func TestP401Many(t *testing.T) {
	const many = 200000
	h := New[int]()
	for k := range many {
		h.Put((k*7919)%many, k)
	}
	for id := 1; id <= many; id += 2 {
		h.Cancel(id)
	}
	is(t, "Len", h.Len(), many/2)
	for now := range many {
		if v, there := h.Take(now); there && (v*7919)%many != now {
			t.Fatalf("Take(%d): %d, of the time %d", now, v, (v*7919)%many)
		}
	}
	has(t, "none", h)
}

func TestP402ZeroIsNew(t *testing.T) {
	var h Heap[string]
	has(t, "zero", &h)
	takes(t, "Take of a zero one", &h, math.MaxInt, "", false)
	is(t, "Cancel in a zero one", h.Cancel(1), false)
	has(t, "zero still", &h)
	is(t, "Put to a zero one", h.Put(5, "a"), 1)
	is(t, "Put of the next", h.Put(3, "b"), 2)
	has(t, "two", &h, stands[string]{3, 2, "b"}, stands[string]{5, 1, "a"})
	takes(t, "Take", &h, 4, "b", true)
	is(t, "Cancel", h.Cancel(1), true)
	is(t, "the next id", h.Put(1, "c"), 3)
	has(t, "one", &h, stands[string]{1, 3, "c"})
	has(t, "New", New[string]())
}

func TestP402Nil(t *testing.T) {
	var h *Heap[string]
	for range 2 {
		is(t, "Put to a nil one", h.Put(0, "a"), 0)
		is(t, "Cancel in a nil one", h.Cancel(1), false)
		is(t, "Cancel of 0 in a nil one", h.Cancel(0), false)
		at, there := h.At(1)
		tells(t, "At of a nil one", at, there, 0, false)
		takes(t, "Take of a nil one", h, math.MaxInt, "", false)
		has(t, "nil", h)
	}
}

// TestCopyNeverPanics goes on with a heap and what was copied from it by value: they are the same one.
func TestCopyNeverPanics(t *testing.T) {
	h := New[int]()
	c := *h
	h.Put(3, 30)
	c.Put(1, 10)
	h.Put(2, 20)
	is(t, "Cancel by the copy", c.Cancel(3), true)
	has(t, "the first one", h, stands[int]{1, 2, 10}, stands[int]{3, 1, 30})
	has(t, "the copy", &c, stands[int]{1, 2, 10}, stands[int]{3, 1, 30})
}

// TestAnyType has values of many types wait.
func TestAnyType(t *testing.T) {
	type pair struct {
		name string
		list []int
	}
	h := New[pair]()
	h.Put(2, pair{"a", []int{1}})
	h.Put(1, pair{strings.Repeat("b", 3), nil})
	v, there := h.Take(1)
	is(t, "a struct is there", there, true)
	is(t, "a struct", v.name, "bbb")
	is(t, "a list of structs", len(h.List()), 1)

	g := New[func() int]()
	g.Put(1, func() int { return 5 })
	f, there := g.Take(1)
	is(t, "a function is there", there, true)
	is(t, "a function", f(), 5)

	n := New[struct{}]()
	n.Put(1, struct{}{})
	takes(t, "a value of no bytes", n, 1, struct{}{}, true)
	takes(t, "no value of no bytes", n, 1, struct{}{}, false)

	m := New[any]()
	m.Put(1, nil)
	x, there := m.Take(1)
	tells(t, "an interface of nothing", x, there, nil, true)
}
