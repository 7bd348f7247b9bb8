package lru

import (
	"math"
	"slices"
	"testing"
)

// is holds one answer against what is wanted.
func is[T comparable](t *testing.T, what string, got, want T) {
	t.Helper()
	if got != want {
		t.Errorf("%s: %v, not %v", what, got, want)
	}
}

// tells holds a value and whether it is there against what is wanted.
func tells[T comparable](t *testing.T, what string, got T, there bool, want T, wantThere bool) {
	t.Helper()
	if got != want || there != wantThere {
		t.Errorf("%s: %v, %v, not %v, %v", what, got, there, want, wantThere)
	}
}

// told is what Put answers.
type told[K, V comparable] struct {
	k          K
	v          V
	gone, done bool
}

// puts holds what Put tells against what is wanted.
func puts[K, V comparable](t *testing.T, what string, c *Cache[K, V], k K, v V, want told[K, V]) {
	t.Helper()
	var got told[K, V]
	got.k, got.v, got.gone, got.done = c.Put(k, v)
	is(t, what, got, want)
}

// letter is what Put of a cache of letters answers when nothing goes.
func letter(done bool) told[int, string] { return told[int, string]{done: done} }

// letters makes a cache that has room for so many, with 1 "a", 2 "b" and so on in it.
func letters(t *testing.T, room, n int) *Cache[int, string] {
	t.Helper()
	c := New[int, string](room)
	for k := range n {
		puts(t, "Put of a letter", c, k+1, string(rune('a'+k)), letter(true))
	}
	return c
}

// kept is what a key that is there is known by.
type kept[K, V comparable] struct {
	k    K
	v    V
	pins int
}

// has holds all that can be asked of c, without using it, against what is there, the one that was used last first.
func has[K, V comparable](t *testing.T, what string, c *Cache[K, V], room int, want ...kept[K, V]) {
	t.Helper()
	is(t, what+": Len", c.Len(), len(want))
	is(t, what+": Room", c.Room(), room)
	var keys []K
	for _, w := range want {
		keys = append(keys, w.k)
		v, there := c.Peek(w.k)
		tells(t, what+": Peek", v, there, w.v, true)
		is(t, what+": Pinned", c.Pinned(w.k), w.pins)
	}
	if l := c.Keys(); !slices.Equal(l, keys) {
		t.Errorf("%s: Keys: %v, not %v", what, l, keys)
	}
}

// lacks holds all calls that tell of a key against one that is not there.
func lacks[K, V comparable](t *testing.T, what string, c *Cache[K, V], k K) {
	t.Helper()
	var none V
	v, there := c.Get(k)
	tells(t, what+": Get", v, there, none, false)
	v, there = c.Peek(k)
	tells(t, what+": Peek", v, there, none, false)
	is(t, what+": Pin", c.Pin(k), false)
	is(t, what+": Unpin", c.Unpin(k), false)
	is(t, what+": Pinned", c.Pinned(k), 0)
	is(t, what+": Delete", c.Delete(k), false)
}

func TestP501Examples(t *testing.T) {
	c := letters(t, 2, 2)
	v, there := c.Get(1)
	tells(t, "Get", v, there, "a", true)
	puts(t, "Put of a third", c, 3, "c", told[int, string]{2, "b", true, true})
	has(t, "two are left", c, 2, kept[int, string]{3, "c", 0}, kept[int, string]{1, "a", 0})
	lacks(t, "what went", c, 2)
}

func TestP501NewHasRoom(t *testing.T) {
	for _, r := range []struct{ room, want int }{
		{math.MinInt, 0}, {-1, 0}, {0, 0}, {1, 1}, {2, 2}, {99999, 99999}, {100000, 100000}, {100001, 100000}, {math.MaxInt, 100000},
	} {
		c := New[int, int](r.room)
		has(t, "New", c, r.want)
		for k := range min(r.want, 3) {
			puts(t, "Put where there is room", c, k, k, told[int, int]{done: true})
		}
		is(t, "Len", c.Len(), min(r.want, 3))
		is(t, "Room is not less for it", c.Room(), r.want)
	}
}

func TestP501PutGivesAValue(t *testing.T) {
	c := letters(t, 3, 3)
	has(t, "three", c, 3, kept[int, string]{3, "c", 0}, kept[int, string]{2, "b", 0}, kept[int, string]{1, "a", 0})
	puts(t, "Put of what is there, in a full one", c, 2, "B", letter(true))
	has(t, "it has the new value, and was used", c, 3, kept[int, string]{2, "B", 0}, kept[int, string]{3, "c", 0}, kept[int, string]{1, "a", 0})
	puts(t, "Put of the last one", c, 1, "", letter(true))
	has(t, "it was used", c, 3, kept[int, string]{1, "", 0}, kept[int, string]{2, "B", 0}, kept[int, string]{3, "c", 0})
	puts(t, "Put of the first one", c, 1, "A", letter(true))
	has(t, "it stays the first", c, 3, kept[int, string]{1, "A", 0}, kept[int, string]{2, "B", 0}, kept[int, string]{3, "c", 0})
}

func TestP501PutLetsGoOfTheLast(t *testing.T) {
	c := letters(t, 3, 3)
	puts(t, "Put of a new one", c, 4, "d", told[int, string]{1, "a", true, true})
	puts(t, "Put of what went", c, 1, "A", told[int, string]{2, "b", true, true})
	has(t, "the newer ones", c, 3, kept[int, string]{1, "A", 0}, kept[int, string]{4, "d", 0}, kept[int, string]{3, "c", 0})
	puts(t, "Put of an old one", c, 3, "C", letter(true))
	puts(t, "Put of a new one again", c, 5, "e", told[int, string]{4, "d", true, true})
	has(t, "the newer ones again", c, 3, kept[int, string]{5, "e", 0}, kept[int, string]{3, "C", 0}, kept[int, string]{1, "A", 0})
	one := letters(t, 1, 1)
	puts(t, "Put to a room for one", one, 2, "b", told[int, string]{1, "a", true, true})
	has(t, "one", one, 1, kept[int, string]{2, "b", 0})
}

func TestP501PutTellsValuesThatAreZero(t *testing.T) {
	c := New[int, int](1)
	puts(t, "Put of zeros", c, 0, 0, told[int, int]{done: true})
	puts(t, "zeros go", c, 1, 1, told[int, int]{0, 0, true, true})
	lacks(t, "what went", c, 0)
}

func TestP501PutLeavesThePinned(t *testing.T) {
	c := letters(t, 3, 3)
	c.Pin(1)
	puts(t, "Put where the last one is pinned", c, 4, "d", told[int, string]{2, "b", true, true})
	c.Pin(3)
	puts(t, "Put where the last two are pinned", c, 5, "e", told[int, string]{4, "d", true, true})
	c.Pin(5)
	for k := range 3 {
		puts(t, "Put where all are pinned", c, 6+k, "f", letter(false))
		has(t, "nothing changed", c, 3, kept[int, string]{5, "e", 1}, kept[int, string]{3, "c", 1}, kept[int, string]{1, "a", 1})
	}
	lacks(t, "what was not done", c, 6)
	puts(t, "Put of what is there where all are pinned", c, 3, "C", letter(true))
	has(t, "it keeps its pin", c, 3, kept[int, string]{3, "C", 1}, kept[int, string]{5, "e", 1}, kept[int, string]{1, "a", 1})
	c.Unpin(5)
	puts(t, "Put where one is not pinned", c, 6, "f", told[int, string]{5, "e", true, true})
	has(t, "the pinned ones and the new one", c, 3, kept[int, string]{6, "f", 0}, kept[int, string]{3, "C", 1}, kept[int, string]{1, "a", 1})
}

// TestP501UnpinGivesBackItsPlace lets each of the pinned ones go, whatever was searched for ahead of it.
func TestP501UnpinGivesBackItsPlace(t *testing.T) {
	for free := range 5 {
		for older := range 5 {
			c := letters(t, 5, 5)
			for k := range 5 {
				c.Pin(k + 1)
			}
			puts(t, "Put where all are pinned", c, 9, "x", letter(false))
			c.Unpin(free + 1)
			c.Unpin(older + 1)
			first := min(free, older)
			puts(t, "the older one goes", c, 9, "x", told[int, string]{first + 1, string(rune('a' + first)), true, true})
		}
	}
}

// TestP501UsedOnesGoLater uses one behind a search for what goes: it is the newest then, also if it was pinned.
func TestP501UsedOnesGoLater(t *testing.T) {
	c := letters(t, 3, 3)
	c.Pin(1)
	puts(t, "Put behind a pinned one", c, 4, "d", told[int, string]{2, "b", true, true})
	c.Get(3)
	c.Unpin(1)
	puts(t, "the one that was unpinned goes", c, 5, "e", told[int, string]{1, "a", true, true})
	puts(t, "then the one that was not used", c, 6, "f", told[int, string]{4, "d", true, true})
	c.Pin(3)
	c.Get(3)
	c.Unpin(3)
	puts(t, "not the one that was used while it was pinned", c, 7, "g", told[int, string]{5, "e", true, true})
	has(t, "three", c, 3, kept[int, string]{7, "g", 0}, kept[int, string]{3, "c", 0}, kept[int, string]{6, "f", 0})
}

func TestP501RoomForNone(t *testing.T) {
	for _, room := range []int{0, -1, math.MinInt} {
		c := New[int, string](room)
		for range 2 {
			puts(t, "Put without room", c, 1, "a", letter(false))
			has(t, "none", c, 0)
			lacks(t, "what had no room", c, 1)
		}
	}
}

func TestP501GetUses(t *testing.T) {
	c := letters(t, 3, 3)
	lacks(t, "no key", c, 0)
	lacks(t, "no key", c, 4)
	has(t, "nothing changed", c, 3, kept[int, string]{3, "c", 0}, kept[int, string]{2, "b", 0}, kept[int, string]{1, "a", 0})
	for _, w := range []struct {
		k    int
		v    string
		keys []int
	}{{1, "a", []int{1, 3, 2}}, {1, "a", []int{1, 3, 2}}, {3, "c", []int{3, 1, 2}}, {2, "b", []int{2, 3, 1}}} {
		v, there := c.Get(w.k)
		tells(t, "Get", v, there, w.v, true)
		if l := c.Keys(); !slices.Equal(l, w.keys) {
			t.Errorf("Keys: %v, not %v", l, w.keys)
		}
	}
}

func TestP501OthersDoNotUse(t *testing.T) {
	c := letters(t, 3, 3)
	for range 2 {
		c.Peek(1)
		c.Pin(1)
		c.Pinned(1)
		c.Unpin(1)
		c.Unpin(1)
		c.Keys()
		c.Len()
		c.Room()
		has(t, "nothing was used", c, 3, kept[int, string]{3, "c", 0}, kept[int, string]{2, "b", 0}, kept[int, string]{1, "a", 0})
	}
	puts(t, "the last one goes", c, 4, "d", told[int, string]{1, "a", true, true})
}

func TestP501Pins(t *testing.T) {
	c := letters(t, 2, 1)
	is(t, "Unpin without a pin", c.Unpin(1), false)
	for k := range 3 {
		is(t, "Pin", c.Pin(1), true)
		has(t, "one pin more", c, 2, kept[int, string]{1, "a", k + 1})
	}
	c.Put(2, "b")
	for k := range 3 {
		is(t, "Unpin", c.Unpin(1), true)
		has(t, "one pin less", c, 2, kept[int, string]{2, "b", 0}, kept[int, string]{1, "a", 2 - k})
	}
	is(t, "Unpin when there are none", c.Unpin(1), false)
	is(t, "no pin less than none", c.Pinned(1), 0)
	puts(t, "Put when there are none", c, 3, "c", told[int, string]{1, "a", true, true})
	lacks(t, "what went", c, 1)
}

func TestP501PinsAreCounted(t *testing.T) {
	c := letters(t, 2, 2)
	c.Pin(1)
	c.Pin(1)
	c.Pin(2)
	c.Unpin(1)
	puts(t, "Put while one pin of two is left", c, 3, "c", letter(false))
	c.Unpin(1)
	puts(t, "Put when none is left", c, 3, "c", told[int, string]{1, "a", true, true})
}

func TestP501Delete(t *testing.T) {
	c := letters(t, 3, 3)
	is(t, "Delete of no key", c.Delete(4), false)
	is(t, "Delete of the middle one", c.Delete(2), true)
	is(t, "Delete again", c.Delete(2), false)
	lacks(t, "what went", c, 2)
	has(t, "two", c, 3, kept[int, string]{3, "c", 0}, kept[int, string]{1, "a", 0})
	puts(t, "Put where there is room again", c, 4, "d", letter(true))
	is(t, "Delete of the first", c.Delete(4), true)
	is(t, "Delete of the last", c.Delete(1), true)
	has(t, "one", c, 3, kept[int, string]{3, "c", 0})
	is(t, "Delete of the only one", c.Delete(3), true)
	has(t, "none", c, 3)
	puts(t, "Put to an empty one", c, 5, "e", letter(true))
	has(t, "one again", c, 3, kept[int, string]{5, "e", 0})
}

func TestP501DeleteTakesThePins(t *testing.T) {
	c := letters(t, 2, 2)
	for range 3 {
		c.Pin(1)
	}
	c.Pin(2)
	puts(t, "Put where all are pinned", c, 3, "c", letter(false))
	is(t, "Delete of a pinned one", c.Delete(1), true)
	puts(t, "Put of it again", c, 1, "A", letter(true))
	has(t, "it has no pins", c, 2, kept[int, string]{1, "A", 0}, kept[int, string]{2, "b", 1})
	puts(t, "it goes like others", c, 3, "c", told[int, string]{1, "A", true, true})
	is(t, "what went has no pins", c.Pinned(1), 0)
	is(t, "Delete of the other one", c.Delete(2), true)
	puts(t, "Put where there is room", c, 4, "d", letter(true))
	puts(t, "the older one goes", c, 5, "e", told[int, string]{3, "c", true, true})
}

func TestP501KeysAreNew(t *testing.T) {
	c := letters(t, 3, 3)
	a, b := c.Keys(), c.Keys()
	a[0] = 99
	a = append(a[:1], 99)
	if !slices.Equal(b, []int{3, 2, 1}) {
		t.Errorf("the other list: %v", b)
	}
	has(t, "a list was changed", c, 3, kept[int, string]{3, "c", 0}, kept[int, string]{2, "b", 0}, kept[int, string]{1, "a", 0})
	c.Get(1)
	c.Delete(2)
	if !slices.Equal(b, []int{3, 2, 1}) {
		t.Errorf("the list of before: %v", b)
	}
}

// linked counts the entries that can be reached from a cache by its list, each way, and by its place of search.
func linked[K comparable, V any](t *testing.T, c *Cache[K, V]) int {
	t.Helper()
	s, n, back, found := c.shelf, 0, 0, false
	for e := s.ends.older; e != &s.ends; e = e.older {
		n++
		found = found || e == s.next
	}
	for e := s.ends.newer; e != &s.ends; e = e.newer {
		back++
	}
	is(t, "entries the other way", back, n)
	is(t, "the search begins at what is there", found || s.next == &s.ends, true)
	return n
}

func TestP501KeepsNothingThatIsGone(t *testing.T) {
	c := New[int, *int](4)
	for round := range 30 {
		for k := range 7 {
			c.Put(k*round%11, new(int))
			if k%3 == 0 {
				c.Pin(k)
			}
		}
		c.Delete(round % 11)
		is(t, "entries in the list", linked(t, c), c.Len())
		is(t, "entries in the map", len(c.shelf.entries), c.Len())
		for _, k := range c.Keys() {
			for c.Unpin(k) {
				is(t, "entries in the list behind Unpin", linked(t, c), c.Len())
			}
		}
	}
	for _, k := range c.Keys() {
		c.Delete(k)
	}
	is(t, "entries in the list when all are gone", linked(t, c), 0)
	is(t, "entries in the map when all are gone", len(c.shelf.entries), 0)
}

// plain is a cache that searches a plain list for each call, the one that was used last first.
type plain struct {
	room int
	list []kept[int, int]
}

func (p *plain) find(k int) int {
	return slices.IndexFunc(p.list, func(e kept[int, int]) bool { return e.k == k })
}

func (p *plain) use(at int) {
	e := p.list[at]
	p.list = slices.Insert(slices.Delete(p.list, at, at+1), 0, e)
}

func (p *plain) put(k, v int) told[int, int] {
	if at := p.find(k); at >= 0 {
		p.list[at].v = v
		p.use(at)
		return told[int, int]{done: true}
	}
	answer := told[int, int]{done: true}
	if len(p.list) == p.room {
		at := len(p.list) - 1
		for at >= 0 && p.list[at].pins > 0 {
			at--
		}
		if at < 0 {
			return told[int, int]{}
		}
		answer = told[int, int]{p.list[at].k, p.list[at].v, true, true}
		p.list = slices.Delete(p.list, at, at+1)
	}
	p.list = slices.Insert(p.list, 0, kept[int, int]{k, v, 0})
	return answer
}

// pin adds so many pins to a key, and tells if that could be done.
func (p *plain) pin(k, n int) bool {
	at := p.find(k)
	if at < 0 || p.list[at].pins+n < 0 {
		return false
	}
	p.list[at].pins += n
	return true
}

// TestP501Rounds holds caches against plain lists, through many calls.
func TestP501Rounds(t *testing.T) {
	for _, shape := range []struct{ room, keys, pins int }{
		{0, 3, 2}, {1, 3, 2}, {2, 4, 2}, {5, 8, 1}, {5, 8, 3}, {5, 20, 2}, {16, 24, 1}, {16, 24, 4}, {30, 20, 2},
	} {
		c, p := New[int, int](shape.room), &plain{room: shape.room}
		seed := uint32(shape.room*100 + shape.pins)
		next := func(n int) int {
			seed = seed*1664525 + 1013904223
			return int(seed>>8) % n
		}
		for step := range 4000 {
			k := next(shape.keys)
			at := p.find(k)
			switch call := next(9 + shape.pins); call {
			case 0, 1, 2:
				puts(t, "Put", c, k, step, p.put(k, step))
			case 3, 4:
				v, there := c.Get(k)
				if at >= 0 {
					tells(t, "Get", v, there, p.list[at].v, true)
					p.use(at)
				} else {
					tells(t, "Get of no key", v, there, 0, false)
				}
			case 5, 6, 7:
				is(t, "Unpin", c.Unpin(k), p.pin(k, -1))
			case 8:
				if next(3) == 0 {
					is(t, "Delete", c.Delete(k), at >= 0)
					if at >= 0 {
						p.list = slices.Delete(p.list, at, at+1)
					}
				}
			default:
				is(t, "Pin", c.Pin(k), p.pin(k, 1))
			}
			has(t, "after a call", c, shape.room, p.list...)
		}
	}
}

// TestP501Many has the greatest cache with all but one pinned: what goes is found without a walk past them each time.
func TestP501Many(t *testing.T) {
	const many = 100000
	c := New[int, int](many)
	for k := range many {
		puts(t, "Put", c, k, -k, told[int, int]{done: true})
		if k != many-1 {
			c.Pin(k)
		}
	}
	for k := range many {
		puts(t, "Put to a full one", c, many+k, -many-k, told[int, int]{many + k - 1, 1 - many - k, true, true})
	}
	c.Pin(2*many - 1)
	for k := range many {
		puts(t, "Put where all are pinned", c, -1-k, 0, told[int, int]{})
	}
	for k := range many - 1 {
		c.Unpin(k)
		puts(t, "Put where the oldest is not pinned", c, -1-k, 0, told[int, int]{k, -k, true, true})
		c.Pin(-1 - k)
	}
	is(t, "Len", c.Len(), many)
	is(t, "keys", len(c.Keys()), many)
}

// without holds all calls on a cache that has no room against what is wanted.
func without(t *testing.T, what string, c *Cache[int, string]) {
	t.Helper()
	for _, k := range []int{0, 1, math.MaxInt} {
		has(t, what, c, 0)
		lacks(t, what, c, k)
		puts(t, what+": Put", c, k, "a", letter(false))
		lacks(t, what+" behind Put", c, k)
		has(t, what+" behind Put", c, 0)
	}
}

func TestP502Nil(t *testing.T) {
	without(t, "nil", nil)
}

func TestP502Zero(t *testing.T) {
	var c Cache[int, string]
	without(t, "zero", &c)
	d := c
	without(t, "a copy of zero", &d)
}

// TestCopyNeverPanics goes on with a cache and what was copied from it by value: they are the same one.
func TestCopyNeverPanics(t *testing.T) {
	c := letters(t, 2, 1)
	d := *c
	puts(t, "Put by the copy", &d, 2, "b", letter(true))
	c.Pin(1)
	puts(t, "Put by the copy again", &d, 3, "c", told[int, string]{2, "b", true, true})
	has(t, "the first one", c, 2, kept[int, string]{3, "c", 0}, kept[int, string]{1, "a", 1})
	has(t, "the copy", &d, 2, kept[int, string]{3, "c", 0}, kept[int, string]{1, "a", 1})
}

// TestKeysThatAreNotEqualToThemselves are never found, and go like others.
func TestKeysThatAreNotEqualToThemselves(t *testing.T) {
	c := New[float64, int](2)
	no := math.NaN()
	for k := range 5 {
		_, v, gone, done := c.Put(no, k)
		tells(t, "what goes", v, gone, max(k-2, 0), k >= 2)
		is(t, "Put", done, true)
		is(t, "Len", c.Len(), min(k+1, 2))
		lacks(t, "it is not found", c, no)
		is(t, "the map keeps none", len(c.shelf.entries), 0)
	}
	is(t, "keys", len(c.Keys()), 2)
	_, v, gone, _ := c.Put(1, 9)
	tells(t, "what goes for another", v, gone, 3, true)
	k, v, gone, _ := c.Put(0, 8)
	is(t, "a key that is not equal to itself", k != k, true)
	tells(t, "what goes for the next", v, gone, 4, true)
	has(t, "the others", c, 2, kept[float64, int]{0, 8, 0}, kept[float64, int]{1, 9, 0})
}

// TestKeysThatHaveNoEquality are no keys: nothing panics, and nothing changes.
func TestKeysThatHaveNoEquality(t *testing.T) {
	type box struct{ in any }
	c := New[any, int](2)
	for _, k := range []any{[]int{1}, map[int]int{}, func() {}, box{[]int{1}}} {
		puts(t, "Put to an empty one", New[any, int](1), k, 1, told[any, int]{})
		puts(t, "Put of no key", c, k, 1, told[any, int]{})
		lacks(t, "no key", c, k)
		c.Put("a", 1)
		c.Put(box{3}, 2)
		puts(t, "Put to a full one", c, k, 1, told[any, int]{})
		lacks(t, "no key in a full one", c, k)
		has(t, "nothing changed", c, 2, kept[any, int]{box{3}, 2, 0}, kept[any, int]{"a", 1, 0})
	}
	puts(t, "Put of nil", c, nil, 3, told[any, int]{"a", 1, true, true})
	has(t, "nil is a key", c, 2, kept[any, int]{nil, 3, 0}, kept[any, int]{box{3}, 2, 0})
}

// TestAnyTypes has values of many types by keys of many types.
func TestAnyTypes(t *testing.T) {
	type place struct {
		disk  string
		block int
	}
	c := New[place, []int](1)
	c.Put(place{"a", 1}, []int{1, 2})
	_, there := c.Get(place{"a", 2})
	is(t, "another struct", there, false)
	l, there := c.Get(place{"a", 1})
	is(t, "a list", there && slices.Equal(l, []int{1, 2}), true)
	k, l, gone, _ := c.Put(place{"b", 1}, nil)
	is(t, "a struct goes", gone && k == place{"a", 1} && slices.Equal(l, []int{1, 2}), true)

	f := New[[2]byte, func() int](1)
	f.Put([2]byte{1}, func() int { return 5 })
	g, _ := f.Peek([2]byte{1, 0})
	is(t, "a function", g(), 5)

	n := New[struct{}, struct{}](2)
	puts(t, "a key of no bytes", n, struct{}{}, struct{}{}, told[struct{}, struct{}]{done: true})
	is(t, "Pin of it", n.Pin(struct{}{}), true)
	has(t, "one of it", n, 2, kept[struct{}, struct{}]{pins: 1})
}
