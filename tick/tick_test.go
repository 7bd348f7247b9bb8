package tick

import (
	"math"
	"math/rand"
	"testing"
)

// is holds one answer against what is wanted.
func is[T comparable](t *testing.T, what string, got, want T) {
	t.Helper()
	if got != want {
		t.Errorf("%s: %v, not %v", what, got, want)
	}
}

// has holds all that a clock tells against what it should tell.
func has(t *testing.T, what string, c *Clock, now, real int, kept bool) {
	t.Helper()
	is(t, what+": Now", c.Now(), now)
	is(t, what+": Real", c.Real(), real)
	is(t, what+": Kept", c.Kept(), kept)
}

// waits holds how long a timer waits, which changes nothing of it, against what is wanted.
func waits(t *testing.T, what string, x *Timer, now, want int) {
	t.Helper()
	is(t, what+": Left", x.Left(now), want)
	is(t, what+": Left again", x.Left(now), want)
}

// goes lets a clock go on by each of some steps.
func goes(c *Clock, steps ...int) *Clock {
	for _, by := range steps {
		c.Step(by)
	}
	return c
}

// row tells so many steps of one length.
func row(n, by int) []int {
	l := make([]int, n)
	for k := range l {
		l[k] = by
	}
	return l
}

// joined tells rows of steps, one behind the other.
func joined(l ...[]int) []int {
	var all []int
	for _, steps := range l {
		all = append(all, steps...)
	}
	return all
}

func TestP1601Examples(t *testing.T) {
	c := New()
	for k := range 8 {
		is(t, "Step", c.Step(1), k+1)
	}
	has(t, "eight Steps of 1", c, 8, 8, true)
	is(t, "Step of 4", c.Step(4), 12)
	has(t, "and one of 4", c, 12, 9, false)
}

func TestP1601Step(t *testing.T) {
	for _, c := range []struct{ by, want int }{
		{math.MinInt, 0}, {-1 << 32, 0}, {-8, 0}, {-1, 0}, {0, 0},
		{1, 1}, {2, 2}, {3, 3}, {4, 4}, {5, 5}, {6, 6}, {7, 7}, {8, 8},
		{9, 8}, {10, 8}, {1 << 32, 8}, {math.MaxInt, 8},
	} {
		clock := New()
		has(t, "new", clock, 0, 0, true)
		is(t, "the first Step", clock.Step(c.by), c.want)
		has(t, "one real tick", clock, c.want, 1, true)
		is(t, "Step of 3", clock.Step(3), c.want+3)
		is(t, "the third Step", clock.Step(c.by), 2*c.want+3)
		has(t, "three real ticks", clock, 2*c.want+3, 3, true)
	}
}

// TestP1601StepsThatStand lets real ticks go by in which the clock stands: they are counted.
func TestP1601StepsThatStand(t *testing.T) {
	c := New()
	for k := range 50 {
		is(t, "Step", c.Step(-k), 0)
		has(t, "it stands", c, 0, k+1, k+1 < 8)
	}
	is(t, "Step", c.Step(5), 5)
	has(t, "it goes on", c, 5, 51, false)
}

func TestP1601Kept(t *testing.T) {
	for _, c := range []struct {
		what  string
		steps []int
		want  bool
	}{
		{"none", nil, true},
		{"seven that stand", row(7, 0), true},
		{"eight that stand", row(8, 0), false},
		{"seven of 8", row(7, 8), true},
		{"eight of 8", row(8, 8), false},
		{"6 in eight", joined(row(6, 1), row(2, 0)), false},
		{"7 in eight", joined(row(7, 1), row(1, 0)), true},
		{"9 in eight", joined(row(7, 1), row(1, 2)), true},
		{"10 in eight", joined(row(7, 1), row(1, 3)), false},
		{"10 in seven", joined(row(6, 1), row(1, 4)), true},
		{"6 at the end of seven", joined(row(7, 0), row(1, 6)), false},
		{"7 at the end of seven", joined(row(7, 0), row(1, 7)), true},
		{"8 at the end of seven", joined(row(7, 0), row(1, 8)), true},
		{"8 ahead of seven", joined(row(1, 8), row(7, 0)), true},
		{"8 ahead of eight", joined(row(1, 8), row(8, 0)), false},
		{"8 and 1", joined([]int{8, 1}, row(6, 0)), true},
		{"8 and 2", joined([]int{8, 2}, row(6, 0)), false},
		{"8 again in eight", joined([]int{8}, row(6, 0), []int{8}), false},
		{"8 again behind eight", joined([]int{8}, row(7, 0), []int{8}), true},
		{"8 in each eight", joined([]int{8}, row(7, 0), []int{8}, row(7, 0), []int{8}), true},
		{"one that leaves and one more", joined(row(8, 1), []int{2}), true},
		{"one that leaves and two more", joined(row(8, 1), []int{3}), false},
		{"one that leaves and one less", joined(row(8, 1), []int{0}), true},
		{"two less behind eight", joined(row(8, 1), []int{0, 0}), false},
		{"two more behind eight", joined(row(8, 1), []int{2, 2}), false},
		{"two less, one leaves late", joined([]int{2}, row(7, 1), []int{0}), true},
		{"the ninth makes it too few", joined([]int{3}, row(6, 1), []int{0, 0}), false},
		{"the ninth makes it too many", joined([]int{0}, row(7, 1), []int{3}), false},
		{"9 in each eight", joined(row(7, 1), []int{2}, row(7, 1), []int{2}, row(7, 1), []int{2}), true},
		{"7 in each eight", joined(row(7, 1), []int{0}, row(7, 1), []int{0}, row(7, 1), []int{0}), true},
		{"9 and then 7", joined(row(7, 1), []int{2}, []int{0}, row(7, 1)), true},
		{"all below 0", row(8, -1), false},
		{"below 0 is 0", joined(row(7, 1), row(1, -1)), true},
		{"below 0 takes nothing away", joined(row(6, 1), []int{3, -2}), true},
		{"above 8 is 8", joined(row(1, 99), row(7, 0)), true},
		{"above 8 is 8 in a 10", joined([]int{2}, row(6, 0), []int{99}), false},
	} {
		is(t, c.what, goes(New(), c.steps...).Kept(), c.want)
	}
}

// TestP1601KeptIsForAll breaks the bound once: no row of good ticks mends it.
func TestP1601KeptIsForAll(t *testing.T) {
	for _, bad := range [][]int{row(8, 0), joined(row(8, 1), []int{3}), joined(row(8, 1), []int{0, 0})} {
		c := goes(New(), bad...)
		for range 100 {
			is(t, "behind it", c.Kept(), false)
			c.Step(1)
		}
	}
}

// TestP1601KeptInEachEight breaks the bound late, by one step of a long row.
func TestP1601KeptInEachEight(t *testing.T) {
	for at := range 40 {
		for by := range 9 {
			c := New()
			for k := range 48 {
				step := 1
				if k == at {
					step = by
				}
				c.Step(step)
				is(t, "Kept", c.Kept(), k < max(at, 7) || by <= 2)
			}
		}
	}
}

// modelKept tells if the bound was kept, of all steps.
func modelKept(steps []int) bool {
	for end := 8; end <= len(steps); end++ {
		sum := 0
		for _, by := range steps[end-8 : end] {
			sum += min(max(by, 0), 8)
		}
		if sum < 7 || sum > 9 {
			return false
		}
	}
	return true
}

// TestP1601Model holds rows of steps against a model that forgets none.
func TestP1601Model(t *testing.T) {
	draw := rand.New(rand.NewSource(16))
	for range 3000 {
		var steps []int
		c, now, wild := New(), 0, draw.Intn(4)
		for range 40 {
			by := 1
			if draw.Intn(8) <= wild {
				by = []int{-9, -1, 0, 0, 0, 2, 2, 2, 3, 8, 9, 100}[draw.Intn(12)]
			}
			steps = append(steps, by)
			now += min(max(by, 0), 8)
			is(t, "Step", c.Step(by), now)
			has(t, "the model", c, now, len(steps), modelKept(steps))
		}
	}
}

// TestP1601Near makes each step so that the last eight come to 6, 7, 9 or 10 where they can.
func TestP1601Near(t *testing.T) {
	draw := rand.New(rand.NewSource(1601))
	for range 2000 {
		var steps []int
		c := New()
		for len(steps) < 30 {
			sum := 0
			for _, by := range steps[max(0, len(steps)-7):] {
				sum += by
			}
			want := []int{7, 7, 7, 8, 8, 8, 9, 9, 9, 6, 10}[draw.Intn(9+draw.Intn(3))]
			by := min(max(want-sum, 0), 8)
			if len(steps) < 7 {
				by = draw.Intn(3)
			}
			steps = append(steps, by)
			c.Step(by)
			is(t, "Kept", c.Kept(), modelKept(steps))
		}
	}
}

// TestP1601AsksChangeNothing asks again and again.
func TestP1601AsksChangeNothing(t *testing.T) {
	c := goes(New(), joined(row(7, 1), []int{2})...)
	for range 20 {
		has(t, "asked", c, 9, 8, true)
	}
	c.Step(2)
	for range 20 {
		has(t, "asked of a broken one", c, 11, 9, false)
	}
}

func TestP1602Timer(t *testing.T) {
	for _, c := range []struct {
		at, now, left int
		due           bool
	}{
		{0, 0, 0, true}, {0, -1, 1, false}, {0, 1, 0, true},
		{5, 1, 4, false}, {5, 4, 1, false}, {5, 5, 0, true}, {5, 6, 0, true}, {5, math.MaxInt, 0, true},
		{-3, -4, 1, false}, {-3, -3, 0, true}, {-3, 0, 0, true}, {-3, math.MinInt + 1, math.MaxInt - 3, false},
		{math.MaxInt, math.MaxInt - 1, 1, false}, {math.MaxInt, math.MaxInt, 0, true}, {math.MaxInt, 0, math.MaxInt, false},
		{math.MinInt, math.MinInt, 0, true}, {math.MinInt, math.MaxInt, 0, true}, {math.MinInt, 0, 0, true},
	} {
		var x Timer
		x.Set(c.at)
		waits(t, "set", &x, c.now, c.left)
		is(t, "Due", x.Due(c.now), c.due)
		if c.due {
			waits(t, "it was due", &x, c.now, -1)
			is(t, "Due again", x.Due(math.MaxInt), false)
			continue
		}
		waits(t, "it was not due", &x, c.now, c.left)
		is(t, "Due again", x.Due(c.now), false)
		is(t, "Due at its time", x.Due(c.at), true)
		waits(t, "it was due late", &x, c.now, -1)
	}
}

// TestP1602LeftBeyondInts asks for waits that no int tells: they stay at the greatest one.
func TestP1602LeftBeyondInts(t *testing.T) {
	for _, c := range []struct{ at, now, left int }{
		{0, math.MinInt, math.MaxInt}, {1, math.MinInt, math.MaxInt}, {-1, math.MinInt, math.MaxInt},
		{math.MaxInt, -1, math.MaxInt}, {math.MaxInt, math.MinInt, math.MaxInt}, {math.MaxInt, math.MinInt + 1, math.MaxInt},
		{1 << 62, -1 << 62, math.MaxInt}, {1<<62 - 1, -1 << 62, math.MaxInt}, {1<<62 - 2, -1 << 62, math.MaxInt - 1},
	} {
		var x Timer
		x.Set(c.at)
		waits(t, "far away", &x, c.now, c.left)
		is(t, "Due", x.Due(c.now), false)
	}
}

func TestP1602SetAnew(t *testing.T) {
	var x Timer
	x.Set(7)
	x.Set(2)
	waits(t, "an earlier time", &x, 1, 1)
	x.Set(9)
	waits(t, "a later time", &x, 1, 8)
	is(t, "Due of the time that was", x.Due(8), false)
	is(t, "Due", x.Due(9), true)
	x.Set(9)
	waits(t, "set when it was due", &x, 9, 0)
	is(t, "Due anew", x.Due(9), true)
	is(t, "Due but once", x.Due(9), false)
}

func TestP1602Stop(t *testing.T) {
	for _, at := range []int{math.MinInt, -3, 0, 5, math.MaxInt} {
		var x Timer
		x.Set(at)
		x.Stop()
		waits(t, "stopped", &x, 0, -1)
		is(t, "Due", x.Due(math.MaxInt), false)
		x.Stop()
		waits(t, "stopped again", &x, 0, -1)
		x.Set(3)
		waits(t, "set behind it", &x, 1, 2)
		is(t, "Due behind it", x.Due(3), true)
		x.Stop()
		is(t, "Due of one that was due", x.Due(math.MaxInt), false)
	}
}

func TestP1602Zero(t *testing.T) {
	for _, now := range []int{math.MinInt, -1, 0, 1, math.MaxInt} {
		var x Timer
		waits(t, "zero", &x, now, -1)
		is(t, "Due", x.Due(now), false)
		x.Stop()
		waits(t, "stopped", &x, now, -1)
	}
}

// TestP1603 lets clocks go as fast, as slow and as unevenly as the bound lets them.
// It is for the first ticks, too, as if the clock had gone on by 1 in each tick ahead of them: eight alone can break the bound.
func TestP1603(t *testing.T) {
	draw := rand.New(rand.NewSource(1603))
	for range 200 {
		c, steps := New(), row(7, 1)
		for range 200 {
			by := draw.Intn(9)
			if draw.Intn(3) > 0 || !modelKept(append(steps, by)) {
				by = evens(steps)
			}
			steps = append(steps, by)
			c.Step(by)
			if !c.Kept() {
				t.Fatalf("the bound was kept: %v", steps[7:])
			}
			if now, real := c.Now(), c.Real(); 8*(now+9) < 7*real || 8*(now-9) > 9*real {
				t.Fatalf("Now %d of Real %d: %v", now, real, steps[7:])
			}
		}
	}
}

// evens tells the step that makes the last eight come nearest to 8.
func evens(steps []int) int {
	sum := 0
	for _, by := range steps[len(steps)-7:] {
		sum += by
	}
	return max(8-sum, 0)
}

// TestP1603Ends has the fastest and the slowest clocks that keep the bound.
func TestP1603Ends(t *testing.T) {
	fast, slow := New(), New()
	for range 1000 {
		goes(fast, 8, 1, 0, 0, 0, 0, 0, 0)
		goes(slow, 0, 0, 0, 0, 0, 0, 0, 7)
	}
	has(t, "fast", fast, 9000, 8000, true)
	has(t, "slow", slow, 7000, 8000, true)
}

func TestP1603ZeroClock(t *testing.T) {
	var zero Clock
	has(t, "zero", &zero, 0, 0, true)
	for k := range 8 {
		is(t, "Step", zero.Step(1), k+1)
		has(t, "it goes", &zero, k+1, k+1, true)
	}
	is(t, "Step", zero.Step(3), 11)
	has(t, "it is broken", &zero, 11, 9, false)
}

func TestP1603Nil(t *testing.T) {
	var c *Clock
	for _, by := range []int{math.MinInt, -1, 0, 1, 8, math.MaxInt} {
		is(t, "Step", c.Step(by), 0)
		has(t, "nil", c, 0, 0, false)
	}
	var x *Timer
	for _, now := range []int{math.MinInt, -1, 0, 1, math.MaxInt} {
		x.Set(now)
		is(t, "Due", x.Due(now), false)
		waits(t, "nil", x, now, -1)
		x.Stop()
		waits(t, "nil and stopped", x, now, -1)
	}
}

func TestClocksAreApart(t *testing.T) {
	a, b := New(), New()
	goes(a, row(8, 0)...)
	has(t, "the one", a, 0, 8, false)
	has(t, "the other one", b, 0, 0, true)
	goes(b, row(8, 1)...)
	has(t, "the one", a, 0, 8, false)
	has(t, "the other one", b, 8, 8, true)
}

// TestCopiesGoOnApart copies clocks of each number of steps by value: what the one does, the other one does not.
func TestCopiesGoOnApart(t *testing.T) {
	for n := range 20 {
		a := goes(New(), row(n, 1)...)
		b := *a
		has(t, "a copy", &b, n, n, true)
		goes(a, row(8, 8)...)
		has(t, "the first one is broken", a, n+64, n+8, false)
		has(t, "the copy is not", &b, n, n, true)
		for k := range 8 {
			b.Step(1)
			has(t, "the copy goes on", &b, n+k+1, n+k+1, true)
		}
		has(t, "the first one stays", a, n+64, n+8, false)
	}
	var x Timer
	x.Set(5)
	y := x
	is(t, "Due of a copy", y.Due(5), true)
	waits(t, "the first one is set", &x, 5, 0)
}

// TestReadme does what README.md shows.
func TestReadme(t *testing.T) {
	c := New()
	is(t, "Step(1)", c.Step(1), 1)
	is(t, "Step(2)", c.Step(2), 3)
	is(t, "Step(0)", c.Step(0), 3)
	is(t, "Step(99)", c.Step(99), 11)
	is(t, "Now", c.Now(), 11)
	is(t, "Real", c.Real(), 4)
	is(t, "Kept", c.Kept(), true)
	for range 4 {
		c.Step(1)
	}
	is(t, "Kept of eight", c.Kept(), false)

	var w Timer
	w.Set(15)
	is(t, "Left", w.Left(11), 4)
	is(t, "Due ahead of it", w.Due(14), false)
	is(t, "Due", w.Due(16), true)
	is(t, "Due again", w.Due(17), false)
	is(t, "Left of none", w.Left(17), -1)
}

func BenchmarkStep(b *testing.B) {
	c := New()
	for b.Loop() {
		c.Step(1)
	}
}
