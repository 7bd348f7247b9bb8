package ring

import (
	"math"
	"slices"
	"strings"
	"sync"
	"testing"
)

// is holds one answer against what is wanted.
func is[T comparable](t *testing.T, what string, got, want T) {
	t.Helper()
	if got != want {
		t.Errorf("%s: %v, not %v", what, got, want)
	}
}

// tells holds a value and whether it is there against what is wanted.
func tells[T comparable](t *testing.T, what string, got T, there bool, want T, wantThere bool) {
	t.Helper()
	if got != want || there != wantThere {
		t.Errorf("%s: %v, %v, not %v, %v", what, got, there, want, wantThere)
	}
}

// has holds all that can be asked of r against the values and the room that it should have.
func has[T comparable](t *testing.T, what string, r *Ring[T], room int, want ...T) {
	t.Helper()
	if l := r.List(); !slices.Equal(l, want) {
		t.Errorf("%s: List: %v, not %v", what, l, want)
	}
	is(t, what+": Len", r.Len(), len(want))
	is(t, what+": Room", r.Room(), room)
	for k, v := range want {
		got, there := r.Peek(k)
		tells(t, what+": Peek", got, there, v, true)
	}
	var none T
	for _, k := range []int{math.MinInt, -1, len(want), len(want) + 1, math.MaxInt} {
		got, there := r.Peek(k)
		tells(t, what+": Peek outside", got, there, none, false)
	}
}

func TestP301New(t *testing.T) {
	for _, c := range []struct{ room, want int }{
		{0, 0}, {1, 1}, {2, 2}, {900, 900}, {99999, 99999}, {100000, 100000},
		{-1, 0}, {math.MinInt, 0}, {100001, 100000}, {1 << 32, 100000}, {math.MaxInt, 100000},
	} {
		r := New[int](c.room)
		has(t, "New", r, c.want)
		is(t, "all that has room", r.Push(make([]int, c.want+1)...), c.want)
		is(t, "Len of a full one", r.Len(), c.want)
		is(t, "Push to a full one", r.Push(1), 0)
	}
}

func TestP301Push(t *testing.T) {
	r := New[string](5)
	is(t, "Push of none", r.Push(), 0)
	is(t, "Push of a nil list", r.Push(nil...), 0)
	has(t, "nothing", r, 5)
	is(t, "Push of one", r.Push("a"), 1)
	has(t, "one", r, 4, "a")
	is(t, "Push of two", r.Push("b", "b"), 2)
	has(t, "three", r, 2, "a", "b", "b")
	is(t, "Push of more than have room", r.Push("c", "", "d"), 2)
	has(t, "full", r, 0, "a", "b", "b", "c", "")
	is(t, "Push to a full one", r.Push("e"), 0)
	has(t, "still full", r, 0, "a", "b", "b", "c", "")
	is(t, "Push of itself", r.Push(r.List()...), 0)
}

func TestP301PushKeepsNoList(t *testing.T) {
	r := New[int](4)
	l := []int{1, 2, 3}
	r.Push(l...)
	l[0] = 9
	has(t, "the list was changed", r, 1, 1, 2, 3)
	r.Set(1, 8)
	is(t, "what was handed in", l[1], 2)
}

func TestP301Pop(t *testing.T) {
	r := New[int](2)
	v, there := r.Pop()
	tells(t, "Pop of an empty one", v, there, 0, false)
	is(t, "Push", r.Push(1, 2, 3), 2)
	v, there = r.Pop()
	tells(t, "Pop", v, there, 1, true)
	has(t, "one is left", r, 1, 2)
	r.Push(3)
	v, there = r.Pop()
	tells(t, "Pop of the next", v, there, 2, true)
	v, there = r.Pop()
	tells(t, "Pop of the last", v, there, 3, true)
	v, there = r.Pop()
	tells(t, "Pop of none", v, there, 0, false)
	has(t, "all are gone", r, 2)
}

func TestP301Set(t *testing.T) {
	r := New[int](4)
	is(t, "Set in an empty one", r.Set(0, 1), false)
	r.Push(1, 2, 3)
	for _, k := range []int{math.MinInt, -1, 3, 4, math.MaxInt} {
		is(t, "Set outside", r.Set(k, 9), false)
		has(t, "nothing changed", r, 1, 1, 2, 3)
	}
	is(t, "Set of the first", r.Set(0, 7), true)
	is(t, "Set of the last", r.Set(2, 8), true)
	has(t, "changed", r, 1, 7, 2, 8)
	r.Pop()
	r.Push(4, 5)
	is(t, "Set of the last, round the end", r.Set(3, 6), true)
	has(t, "changed again", r, 0, 2, 8, 4, 6)
}

func TestP301Drop(t *testing.T) {
	for _, c := range []struct{ n, want int }{
		{math.MinInt, 0}, {-1, 0}, {0, 0}, {1, 1}, {2, 2}, {3, 3}, {4, 3}, {math.MaxInt, 3},
	} {
		r := New[int](5)
		r.Push(0, 0, 0, 5, 6)
		r.Drop(3)
		r.Push(7)
		is(t, "Drop", r.Drop(c.n), c.want)
		has(t, "what is left", r, 2+c.want, []int{5, 6, 7}[c.want:]...)
	}
	is(t, "Drop of none", New[int](3).Drop(1), 0)
}

func TestP301Clear(t *testing.T) {
	r := New[int](3)
	is(t, "Clear of an empty one", r.Clear(), 0)
	r.Push(1, 2, 3)
	r.Pop()
	r.Push(4)
	is(t, "Clear", r.Clear(), 3)
	has(t, "cleared", r, 3)
	is(t, "Clear again", r.Clear(), 0)
	is(t, "Push", r.Push(5, 6, 7, 8), 3)
	has(t, "filled again", r, 0, 5, 6, 7)
}

func TestP301ListIsNew(t *testing.T) {
	r := New[int](3)
	r.Push(1, 2)
	a, b := r.List(), r.List()
	a[0] = 9
	a = append(a, 9)
	is(t, "the other list", b[0], 1)
	has(t, "a list was changed", r, 1, 1, 2)
	r.Set(1, 8)
	is(t, "the list of before", b[1], 2)
}

func TestP301KeepsNothingThatIsGone(t *testing.T) {
	r := New[*int](5)
	for round := range 7 {
		r.Push(new(int), new(int), new(int))
		r.Pop()
		r.Drop(round % 2)
		r.Clear()
		for _, p := range r.cells {
			is(t, "a cell", p, nil)
		}
	}
}

// TestP301Rounds holds rings of many rooms against plain lists, through many calls.
func TestP301Rounds(t *testing.T) {
	for _, room := range []int{0, 1, 2, 3, 4, 7, 20} {
		r, want := New[int](room), []int{}
		seed, next := uint32(room), 0
		for range 1500 {
			seed = seed*1664525 + 1013904223
			n := int(seed>>24) % 6
			switch seed >> 16 % 8 {
			case 0, 1, 2:
				l := []int{next, next + 1, next + 2, next + 3, next + 4}[:n%5]
				next += 5
				put := min(len(l), room-len(want))
				is(t, "Push", r.Push(l...), put)
				want = append(want, l[:put]...)
			case 3, 4:
				v, there := r.Pop()
				if len(want) == 0 {
					tells(t, "Pop of none", v, there, 0, false)
					break
				}
				tells(t, "Pop", v, there, want[0], true)
				want = want[1:]
			case 5:
				n = min(n, len(want))
				is(t, "Drop", r.Drop(n), n)
				want = want[n:]
			case 6:
				is(t, "Set", r.Set(n, next), n < len(want))
				if n < len(want) {
					want[n] = next
				}
				next++
			default:
				if n == 0 {
					is(t, "Clear", r.Clear(), len(want))
					want = want[:0]
				}
			}
			has(t, "after a call", r, room-len(want), want...)
		}
	}
}

func TestP302NewBox(t *testing.T) {
	for _, c := range []struct{ room, want int }{
		{0, 0}, {1, 1}, {2, 2}, {100000, 100000}, {-1, 0}, {math.MinInt, 0}, {100001, 100000}, {math.MaxInt, 100000},
	} {
		b, n := NewBox[int](c.room), 0
		for n <= c.want && b.Send(n) {
			n++
		}
		is(t, "all that has room", n, c.want)
		is(t, "Len of a full one", b.Len(), c.want)
	}
}

func TestP302SendAndTake(t *testing.T) {
	b := NewBox[string](2)
	v, there := b.Take()
	tells(t, "Take of none", v, there, "", false)
	is(t, "Len of none", b.Len(), 0)
	is(t, "Send", b.Send("a"), true)
	is(t, "Len of one", b.Len(), 1)
	is(t, "Send of the second", b.Send("b"), true)
	is(t, "Send without room", b.Send("c"), false)
	is(t, "Len of two", b.Len(), 2)
	v, there = b.Take()
	tells(t, "Take", v, there, "a", true)
	is(t, "Send where there is room again", b.Send(""), true)
	v, there = b.Take()
	tells(t, "Take of the next", v, there, "b", true)
	v, there = b.Take()
	tells(t, "Take of an empty value", v, there, "", true)
	v, there = b.Take()
	tells(t, "Take of none again", v, there, "", false)
}

func TestP302Close(t *testing.T) {
	b := NewBox[int](3)
	b.Send(5)
	b.Send(6)
	is(t, "Close", b.Close(), true)
	is(t, "Close again", b.Close(), false)
	is(t, "Send to a closed one", b.Send(7), false)
	is(t, "Len of a closed one", b.Len(), 2)
	for _, want := range []int{5, 6} {
		v, there := b.Take()
		tells(t, "Take of a closed one", v, there, want, true)
	}
	for range 3 {
		v, there := b.Take()
		tells(t, "Take of none", v, there, 0, false)
	}
	is(t, "Send to a closed one that is empty", b.Send(7), false)
	is(t, "Close once more", b.Close(), false)
	is(t, "Len", b.Len(), 0)

	empty := NewBox[int](0)
	is(t, "Close of one without room", empty.Close(), true)
	is(t, "Close of one without room, again", empty.Close(), false)
}

func TestP302CopyNeverPanics(t *testing.T) {
	b := NewBox[int](2)
	c := *b
	is(t, "Close", b.Close(), true)
	is(t, "Send by a copy", c.Send(1), false)
	is(t, "Close by a copy", c.Close(), false)
}

// TestP302Workers lets some hand over at one time: no value is lost or told twice, and one alone closes.
func TestP302Workers(t *testing.T) {
	const workers, each = 8, 50
	b := NewBox[int](workers * each)
	var all sync.WaitGroup
	for w := range workers {
		all.Go(func() {
			for k := range each {
				if !b.Send(w*each + k) {
					t.Error("Send where there is room: false")
				}
			}
		})
	}
	all.Wait()
	var got [workers][]int
	for w := range got {
		all.Go(func() {
			for v, there := b.Take(); there; v, there = b.Take() {
				got[w] = append(got[w], v)
			}
		})
	}
	all.Wait()
	told := slices.Sorted(slices.Values(slices.Concat(got[:]...)))
	is(t, "how many are told", len(told), workers*each)
	for k, v := range told {
		is(t, "told", v, k)
	}
	var closed [workers]int
	for w := range closed {
		all.Go(func() {
			if b.Close() {
				closed[w] = 1
			}
		})
	}
	all.Wait()
	n := 0
	for _, c := range closed {
		n += c
	}
	is(t, "how many closed it", n, 1)
}

func TestP303NoRing(t *testing.T) {
	for what, r := range map[string]*Ring[string]{"nil": nil, "zero": {}} {
		is(t, what+": Push", r.Push("a", "b"), 0)
		is(t, what+": Set", r.Set(0, "a"), false)
		v, there := r.Pop()
		tells(t, what+": Pop", v, there, "", false)
		is(t, what+": Drop", r.Drop(1), 0)
		is(t, what+": Drop of none", r.Drop(-1), 0)
		is(t, what+": Clear", r.Clear(), 0)
		has(t, what, r, 0)
	}
}

func TestP303NoBox(t *testing.T) {
	for what, b := range map[string]*Box[string]{"nil": nil, "zero": {}} {
		is(t, what+": Send", b.Send("a"), false)
		v, there := b.Take()
		tells(t, what+": Take", v, there, "", false)
		is(t, what+": Close", b.Close(), false)
		is(t, what+": Close again", b.Close(), false)
		is(t, what+": Len", b.Len(), 0)
	}
}

// TestAnyType has values of many types go through.
func TestAnyType(t *testing.T) {
	type pair struct {
		name string
		list []int
	}
	r, b := New[pair](2), NewBox[func() int](1)
	r.Push(pair{"a", []int{1}}, pair{strings.Repeat("b", 3), nil})
	v, there := r.Pop()
	is(t, "a struct is there", there, true)
	is(t, "a struct", v.name, "a")
	is(t, "a function goes in", b.Send(func() int { return 5 }), true)
	f, there := b.Take()
	is(t, "a function is there", there, true)
	is(t, "a function", f(), 5)
}
