package sess

import (
	"math"
	"slices"
	"strconv"
	"strings"
	"testing"

	"commons/api"
	"commons/sum"
)

// is holds one answer against what is wanted.
func is[T comparable](t *testing.T, what string, got, want T) {
	t.Helper()
	if got != want {
		t.Errorf("%s: %v, not %v", what, got, want)
	}
}

// list holds a list against what is wanted; one that is nil and an empty one are the same.
func list[T comparable](t *testing.T, what string, got []T, want ...T) {
	t.Helper()
	if !slices.Equal(got, want) {
		t.Errorf("%s: %v, not %v", what, got, want)
	}
}

// takes holds what a session tells of a frame against the messages that it should tell.
func takes(t *testing.T, what string, s *Session, f Frame, want ...string) {
	t.Helper()
	l, is := s.Take(f)
	if !is || !slices.Equal(l, want) {
		t.Errorf("%s: Take: %q, %v, not %q, true", what, l, is, want)
	}
}

// refuses holds that a session tells nothing of a frame, and is as it was.
func refuses(t *testing.T, what string, s *Session, f Frame) {
	t.Helper()
	waiting, life := s.Waiting(), s.Life()
	l, took := s.Take(f)
	if took || len(l) > 0 {
		t.Errorf("%s: Take: %q, %v, not none, false", what, l, took)
	}
	is(t, what+": Waiting", s.Waiting(), waiting)
	is(t, what+": Life", s.Life(), life)
	list(t, what+": Out", s.Out())
}

// sends lets a session send messages, that must have room.
func sends(t *testing.T, s *Session, l ...string) {
	t.Helper()
	for _, data := range l {
		is(t, "Send of "+data, s.Send(data), api.OK)
	}
}

// to1 tells a frame of end 2 to end 1, of life 7 to life 5, with a message.
func to1(seq, ack int, data string) Frame {
	return Frame{From: 2, To: 1, Mine: 7, Yours: 5, Seq: seq, Ack: ack, Data: data, Has: true}
}

// bare1 tells such a frame without a message.
func bare1(ack int) Frame { return Frame{From: 2, To: 1, Mine: 7, Yours: 5, Ack: ack} }

// to2 tells a frame of end 1 to end 2, of life 5 to life 7, with a message.
func to2(seq, ack int, data string) Frame {
	return Frame{From: 1, To: 2, Mine: 5, Yours: 7, Seq: seq, Ack: ack, Data: data, Has: true}
}

// bare2 tells such a frame without a message.
func bare2(ack int) Frame { return Frame{From: 1, To: 2, Mine: 5, Yours: 7, Ack: ack} }

// met tells end 1 of life 5 that has heard of life 7 of end 2, and owes nothing.
func met(t *testing.T) *Session {
	t.Helper()
	s := New(1, 2, 5)
	takes(t, "the first frame", s, bare1(0))
	list(t, "Out of nothing", s.Out())
	is(t, "Life", s.Life(), 7)
	return s
}

func numbered(n int) []string {
	l := make([]string, n)
	for k := range l {
		l[k] = strconv.Itoa(k + 1)
	}
	return l
}

const widest = "\xff\xff\xff\xff\xff\xff\xff\x7f" // the greatest int

func TestP1501Put(t *testing.T) {
	zeros := func(n int) string { return strings.Repeat("\x00", n) }
	for _, c := range []struct {
		what string
		f    Frame
		want string
	}{
		{"zero", Frame{}, zeros(39)},
		{"each number", Frame{From: 1, To: 258, Mine: 3, Yours: 4, Seq: 5, Ack: 6, Data: "hi", Has: true},
			"\x01\x00\x02\x01" + "\x03" + zeros(7) + "\x04" + zeros(7) + "\x05" + zeros(7) + "\x06" + zeros(7) + "\x01\x02\x00hi"},
		{"the greatest", Frame{From: 65535, To: 65535, Mine: math.MaxInt, Yours: math.MaxInt, Seq: math.MaxInt, Ack: math.MaxInt},
			"\xff\xff\xff\xff" + strings.Repeat(widest, 4) + zeros(3)},
		{"an empty message", Frame{Seq: 9, Has: true}, zeros(20) + "\x09" + zeros(15) + "\x01" + zeros(2)},
		{"data of no message", Frame{Data: "x"}, zeros(36) + "\x00\x01\x00x"},
		{"any bytes", Frame{Data: "\x00\xff\n", Has: true}, zeros(36) + "\x01\x03\x00\x00\xff\n"},
		{"the longest", Frame{Data: strings.Repeat("z", 3000), Has: true}, zeros(36) + "\x01\xb8\x0b" + strings.Repeat("z", 3000)},
	} {
		b, err := Put(c.f)
		is(t, c.what+": Put", err, api.OK)
		is(t, c.what+": bytes", b, sum.Seal(c.want))
		f, err := Get(b)
		is(t, c.what+": Get's error", err, api.OK)
		is(t, c.what+": Get", f, c.f)
	}
}

func TestP1501PutWrong(t *testing.T) {
	long := strings.Repeat("z", 3001)
	for _, c := range []struct {
		what string
		f    Frame
		want api.Errno
	}{
		{"From below 0", Frame{From: -1}, api.ErrArg},
		{"To below 0", Frame{To: -1}, api.ErrArg},
		{"Mine below 0", Frame{Mine: -1}, api.ErrArg},
		{"Yours below 0", Frame{Yours: -1}, api.ErrArg},
		{"Seq below 0", Frame{Seq: -1}, api.ErrArg},
		{"Ack below 0", Frame{Ack: -1}, api.ErrArg},
		{"From far below 0", Frame{From: math.MinInt}, api.ErrArg},
		{"Ack far below 0", Frame{Ack: math.MinInt}, api.ErrArg},
		{"From above", Frame{From: 65536}, api.ErrArg},
		{"To above", Frame{To: 65536}, api.ErrArg},
		{"From far above", Frame{From: math.MaxInt}, api.ErrArg},
		{"To of the low bytes 0", Frame{To: 1 << 32}, api.ErrArg},
		{"too long", Frame{Data: long, Has: true}, api.ErrLong},
		{"too long, of no message", Frame{Data: long}, api.ErrLong},
		{"far too long", Frame{Data: strings.Repeat("z", 70000), Has: true}, api.ErrLong},
		{"a number ahead of the length", Frame{Ack: -1, Data: long, Has: true}, api.ErrArg},
		{"an end ahead of the length", Frame{To: 65536, Data: long, Has: true}, api.ErrArg},
	} {
		b, err := Put(c.f)
		is(t, c.what, err, c.want)
		is(t, c.what+": bytes", b, "")
	}
}

func TestP1501Get(t *testing.T) {
	zeros := strings.Repeat("\x00", 36)
	good, err := Put(Frame{From: 1, To: 2, Mine: 3, Seq: 4, Data: "hello", Has: true})
	is(t, "Put", err, api.OK)
	over := strings.Repeat("\xff", 8)
	for _, c := range []struct {
		what, b string
		want    api.Errno
	}{
		{"none", "", api.ErrShort},
		{"fewer than a sum", good[:3], api.ErrShort},
		{"a wrong sum", "x" + good[1:], api.ErrSum},
		{"a byte changed", good[:len(good)-1] + "x", api.ErrSum},
		{"a byte lost", good[:len(good)-1], api.ErrSum},
		{"a sum ahead of what is short", "xxxx", api.ErrSum},
		{"a seal of none", sum.Seal(""), api.ErrShort},
		{"no data's length", sum.Seal(zeros + "\x00\x00"), api.ErrShort},
		{"no flag", sum.Seal(zeros), api.ErrShort},
		{"fewer data", sum.Seal(zeros + "\x01\x05\x00hell"), api.ErrShort},
		{"a flag that is none", sum.Seal(zeros + "\x02\x00\x00"), api.ErrForm},
		{"a flag ahead of what is short", sum.Seal(zeros + "\x02"), api.ErrForm},
		{"too long", sum.Seal(zeros + "\x01\xb9\x0b" + strings.Repeat("z", 3001)), api.ErrLong},
		{"too long ahead of too short", sum.Seal(zeros + "\x01\xb9\x0b"), api.ErrLong},
		{"a byte behind it", sum.Seal(good[4:] + "x"), api.ErrForm},
		{"a byte 0 behind it", sum.Seal(good[4:] + "\x00"), api.ErrForm},
		{"a Mine beyond any int", sum.Seal(zeros[:4] + over + zeros[12:] + "\x00\x00\x00"), api.ErrForm},
		{"a Yours beyond any int", sum.Seal(zeros[:12] + over + zeros[20:] + "\x00\x00\x00"), api.ErrForm},
		{"a Seq beyond any int", sum.Seal(zeros[:20] + over + zeros[28:] + "\x00\x00\x00"), api.ErrForm},
		{"an Ack beyond any int", sum.Seal(zeros[:28] + over + "\x00\x00\x00"), api.ErrForm},
		{"the least that is beyond", sum.Seal(zeros[:28] + "\x00\x00\x00\x00\x00\x00\x00\x80" + "\x00\x00\x00"), api.ErrForm},
		{"what is short ahead of what is beyond", sum.Seal(zeros[:28] + over + "\x00\x00"), api.ErrShort},
	} {
		f, err := Get(c.b)
		is(t, c.what, err, c.want)
		is(t, c.what+": frame", f, Frame{})
	}
	f, err := Get(good)
	is(t, "Get", err, api.OK)
	is(t, "the frame", f, Frame{From: 1, To: 2, Mine: 3, Seq: 4, Data: "hello", Has: true})
}

func TestP1501EachByteCounts(t *testing.T) {
	good, _ := Put(Frame{From: 1, To: 2, Mine: 3, Yours: 9, Seq: 4, Ack: 2, Data: "hello", Has: true})
	for k := range len(good) {
		f, err := Get(good[:k] + string([]byte{good[k] ^ 0x40}) + good[k+1:])
		is(t, "a byte changed", err, api.ErrSum)
		is(t, "its frame", f, Frame{})
	}
	for k := 4; k < len(good); k++ {
		_, err := Get(sum.Seal(good[4:k]))
		is(t, "sealed, but short", err, api.ErrShort)
	}
}

func TestP1502New(t *testing.T) {
	for _, c := range []struct{ self, peer, life int }{
		{1, 2, 1}, {0, 16, 9}, {3, 3, math.MaxInt}, {-1, 70000, 4}, {0, 0, 0},
	} {
		s := New(c.self, c.peer, c.life)
		list(t, "Out", s.Out())
		list(t, "Tick", s.Tick())
		is(t, "Waiting", s.Waiting(), 0)
		is(t, "Peer", s.Peer(), c.peer)
		is(t, "Life", s.Life(), 0)
		sends(t, s, "m")
		list(t, "the first one", s.Out(), Frame{From: c.self, To: c.peer, Mine: c.life, Seq: 1, Data: "m", Has: true})
	}
}

func TestP1502Send(t *testing.T) {
	s := met(t)
	long := strings.Repeat("z", 3001)
	is(t, "too long", s.Send(long), api.ErrLong)
	is(t, "Waiting behind it", s.Waiting(), 0)
	sends(t, s, "", long[:3000])
	list(t, "Out", s.Out(), to2(1, 0, ""), to2(2, 0, long[:3000]))
	for k := 2; k < api.MaxQueue; k++ {
		is(t, "Waiting", s.Waiting(), k)
		is(t, "one that has room", s.Send("m"), api.OK)
	}
	is(t, "one more", s.Send("n"), api.ErrFull)
	is(t, "too long ahead of full", s.Send(long), api.ErrLong)
	is(t, "all", s.Waiting(), api.MaxQueue)
	is(t, "all that go", len(s.Out()), api.MaxQueue-2)
	is(t, "full, though all went", s.Send("n"), api.ErrFull)
	takes(t, "one is acked", s, bare1(1))
	sends(t, s, "last")
	list(t, "it has the next Seq", s.Out(), to2(65, 0, "last"))
	is(t, "full again", s.Send("n"), api.ErrFull)
}

func TestP1502FullAheadOfThePeer(t *testing.T) {
	s := New(1, 2, 5)
	sends(t, s, numbered(api.MaxQueue)...)
	is(t, "one more", s.Send("n"), api.ErrFull)
	takes(t, "of a life", s, bare1(0))
	is(t, "still full", s.Send("n"), api.ErrFull)
	is(t, "all", s.Waiting(), api.MaxQueue)
}

func TestP1502Out(t *testing.T) {
	s := met(t)
	sends(t, s, "a", "b")
	list(t, "in order", s.Out(), to2(1, 0, "a"), to2(2, 0, "b"))
	list(t, "each once", s.Out())
	sends(t, s, "c")
	list(t, "the new one alone", s.Out(), to2(3, 0, "c"))

	takes(t, "a message", s, to1(1, 0, "m"), "m")
	list(t, "an answer", s.Out(), bare2(1))
	list(t, "is owed no more", s.Out())
	takes(t, "no message", s, bare1(0))
	list(t, "no answer is owed", s.Out())

	takes(t, "two", s, to1(2, 0, "n"), "n")
	takes(t, "messages", s, to1(3, 0, "o"), "o")
	list(t, "one answer", s.Out(), bare2(3))
	list(t, "and no more", s.Out())

	takes(t, "a message more", s, to1(4, 0, "p"), "p")
	sends(t, s, "d", "e")
	list(t, "messages answer it", s.Out(), to2(4, 4, "d"), to2(5, 4, "e"))
	list(t, "so nothing is owed", s.Out())
}

func TestP1502AnswersStay(t *testing.T) {
	s := met(t)
	sends(t, s, "a", "b")
	l := s.Out()
	takes(t, "a message", s, to1(1, 1, "m"), "m")
	sends(t, s, "c")
	more := s.Out()
	l[1] = Frame{}
	list(t, "what was told stays", more, to2(3, 1, "c"))
	s.Tick()
	s.Tick()
	s.Tick()
	list(t, "and is not kept", s.Tick(), to2(2, 1, "b"), to2(3, 1, "c"))
}

func TestP1502Tick(t *testing.T) {
	s := met(t)
	list(t, "of nothing", s.Tick())
	sends(t, s, "a")
	list(t, "what is new", s.Tick(), to2(1, 0, "a"))
	for k := range 13 {
		if k%Again == Again-1 {
			list(t, "again", s.Tick(), to2(1, 0, "a"))
		} else {
			list(t, "not yet", s.Tick())
		}
		list(t, "Out between", s.Out())
	}
	takes(t, "acked", s, bare1(1))
	for range 2 * Again {
		list(t, "no more", s.Tick())
	}
}

func TestP1502TicksOfEach(t *testing.T) {
	s := met(t)
	sends(t, s, "a")
	list(t, "a", s.Out(), to2(1, 0, "a"))
	list(t, "1", s.Tick())
	sends(t, s, "b")
	list(t, "2", s.Tick(), to2(2, 0, "b"))
	list(t, "3", s.Tick())
	sends(t, s, "c")
	list(t, "4: a again, and c", s.Tick(), to2(1, 0, "a"), to2(3, 0, "c"))
	list(t, "5", s.Tick())
	list(t, "6", s.Tick(), to2(2, 0, "b"))
	takes(t, "b is acked", s, bare1(2))
	list(t, "7", s.Tick())
	list(t, "8", s.Tick(), to2(3, 0, "c"))
}

func TestP1502TickAnswers(t *testing.T) {
	s := met(t)
	list(t, "before", s.Tick())
	sends(t, s, "a")
	list(t, "Out", s.Out(), to2(1, 0, "a"))
	for range Again - 1 {
		list(t, "not yet", s.Tick())
	}
	takes(t, "a message comes", s, to1(1, 0, "m"), "m")
	list(t, "again, with an Ack that is new", s.Tick(), to2(1, 1, "a"))
	list(t, "which was the answer", s.Out())
	takes(t, "a message comes", s, to1(2, 0, "n"), "n")
	list(t, "a Tick answers, too", s.Tick(), bare2(2))
}

func TestP1503Refuses(t *testing.T) {
	s := met(t)
	sends(t, s, "a")
	list(t, "Out", s.Out(), to2(1, 0, "a"))
	good := to1(1, 1, "m")
	for what, change := range map[string]func(f *Frame){
		"from another one":       func(f *Frame) { f.From = 3 },
		"from self":              func(f *Frame) { f.From = 1 },
		"to another one":         func(f *Frame) { f.To = 3 },
		"to the peer":            func(f *Frame) { f.To = 2 },
		"Mine 0":                 func(f *Frame) { f.Mine = 0 },
		"Mine below 0":           func(f *Frame) { f.Mine = -1 },
		"an elder life":          func(f *Frame) { f.Mine = 6 },
		"a life of self to come": func(f *Frame) { f.Yours = 6 },
		"one far to come":        func(f *Frame) { f.Yours = math.MaxInt },
		"greater, to one to come": func(f *Frame) {
			f.Mine, f.Yours = 8, 6
		},
		"greater, from another one": func(f *Frame) {
			f.Mine, f.From = 8, 3
		},
	} {
		f := good
		change(&f)
		refuses(t, what, s, f)
	}
	takes(t, "the good one", s, good, "m")
	is(t, "Waiting", s.Waiting(), 0)
}

func TestP1503RefusesAtFirst(t *testing.T) {
	s := New(1, 2, 5)
	refuses(t, "Mine 0, of no life", s, Frame{From: 2, To: 1, Yours: 5, Seq: 1, Has: true})
	refuses(t, "Mine below 0, of no life", s, Frame{From: 2, To: 1, Mine: math.MinInt, Yours: 5, Seq: 1, Has: true})
	refuses(t, "a life of self to come", s, Frame{From: 2, To: 1, Mine: 1, Yours: 6})
	takes(t, "the least life", s, Frame{From: 2, To: 1, Mine: 1})
	is(t, "Life", s.Life(), 1)
}

func TestP1503Order(t *testing.T) {
	s := met(t)
	takes(t, "1", s, to1(1, 0, "m1"), "m1")
	takes(t, "1 again", s, to1(1, 0, "other"))
	takes(t, "3", s, to1(3, 0, "m3"))
	list(t, "up to 1 all was heard", s.Out(), bare2(1))
	takes(t, "5", s, to1(5, 0, "m5"))
	takes(t, "3 again: the first one stays", s, to1(3, 0, "other"))
	list(t, "still up to 1", s.Out(), bare2(1))
	takes(t, "2", s, to1(2, 0, "m2"), "m2", "m3")
	list(t, "up to 3", s.Out(), bare2(3))
	takes(t, "3 behind that", s, to1(3, 0, "other"))
	takes(t, "4", s, to1(4, 0, "m4"), "m4", "m5")
	takes(t, "empty data", s, to1(6, 0, ""), "")
	list(t, "up to 6", s.Out(), bare2(6))
}

func TestP1503PassedBy(t *testing.T) {
	s := met(t)
	takes(t, "1", s, to1(1, 0, "m1"), "m1")
	list(t, "Out", s.Out(), bare2(1))
	for _, seq := range []int{math.MinInt, -1, 0, 1, 2 + api.MaxQueue + 1, math.MaxInt} {
		takes(t, "passed by", s, to1(seq, 0, "x"))
		list(t, "but answered", s.Out(), bare2(1))
	}
	f := bare1(0)
	f.Seq, f.Data = 2, "x"
	takes(t, "without Has", s, f)
	list(t, "not answered", s.Out())
	takes(t, "2", s, to1(2, 0, "m2"), "m2")
}

func TestP1503HowFarAhead(t *testing.T) {
	for _, gone := range []int{0, 1, 100} {
		s := met(t)
		for k := 1; k <= gone; k++ {
			takes(t, "what is gone", s, to1(k, 0, "m"), "m")
		}
		next := gone + 1
		var rest []string
		for k := api.MaxQueue; k >= 0; k-- {
			takes(t, "one too far", s, to1(next+api.MaxQueue+1, 0, "x"))
			if k > 0 {
				takes(t, "ahead", s, to1(next+k, 0, strconv.Itoa(k)))
				rest = append([]string{strconv.Itoa(k)}, rest...)
			}
		}
		takes(t, "all of them", s, to1(next, 0, "0"), append([]string{"0"}, rest...)...)
		takes(t, "behind them", s, to1(next+api.MaxQueue+1, 0, "y"), "y")
		list(t, "up to it", s.Out(), bare2(next+api.MaxQueue+1))
	}
}

func TestP1503Ack(t *testing.T) {
	s := met(t)
	sends(t, s, "a", "b", "c", "d")
	list(t, "Out", s.Out(), to2(1, 0, "a"), to2(2, 0, "b"), to2(3, 0, "c"), to2(4, 0, "d"))
	for _, c := range []struct{ ack, want int }{
		{0, 4}, {-1, 4}, {math.MinInt, 4}, {1, 3}, {1, 3}, {0, 3}, {math.MinInt, 3}, {3, 1}, {2, 1}, {3, 1},
	} {
		takes(t, "an Ack", s, bare1(c.ack))
		is(t, "Waiting", s.Waiting(), c.want)
	}
	list(t, "no answer to it", s.Out())
	takes(t, "with a message", s, to1(1, 4, "m"), "m")
	is(t, "none waits", s.Waiting(), 0)
	takes(t, "far beyond", s, bare1(math.MaxInt))
	sends(t, s, "e")
	list(t, "Seq goes on", s.Out(), to2(5, 1, "e"))
	takes(t, "far beyond", s, bare1(99))
	is(t, "none waits", s.Waiting(), 0)
	sends(t, s, "f")
	takes(t, "acked ahead of Out", s, bare1(6))
	is(t, "it waits no longer", s.Waiting(), 0)
	list(t, "so it does not go", s.Out())
	takes(t, "passed by, but its Ack counts", s, to1(1, 7, "m"))
	sends(t, s, "g")
	takes(t, "passed by, but its Ack counts", s, to1(1, 7, "m"))
	is(t, "it waits no longer", s.Waiting(), 0)
}

func TestP1503GreaterLife(t *testing.T) {
	s := met(t)
	sends(t, s, "a", "b", "c")
	is(t, "all go", len(s.Out()), 3)
	takes(t, "1", s, to1(1, 1, "m1"), "m1")
	takes(t, "3", s, to1(3, 1, "m3"))
	list(t, "the answer", s.Out(), bare2(1))
	sends(t, s, "d")
	is(t, "three wait", s.Waiting(), 3)

	f := to1(2, 0, "n2")
	f.Mine = 9
	takes(t, "a greater life", s, f)
	is(t, "Life", s.Life(), 9)
	is(t, "what waits is forgotten", s.Waiting(), 0)
	list(t, "what was heard is forgotten", s.Out(), Frame{From: 1, To: 2, Mine: 5, Yours: 9})
	f.Seq, f.Data = 1, "n1"
	takes(t, "what was ahead is forgotten", s, f, "n1", "n2")
	sends(t, s, "e")
	list(t, "Seq goes on from 1", s.Out(), Frame{From: 1, To: 2, Mine: 5, Yours: 9, Seq: 1, Ack: 2, Data: "e", Has: true})
	refuses(t, "the elder life", s, to1(2, 1, "m2"))
	f.Mine, f.Seq, f.Data = 10, 1, "o1"
	takes(t, "a message of a greater life", s, f, "o1")
	is(t, "Life", s.Life(), 10)
	is(t, "Waiting", s.Waiting(), 0)
	for range 2 * Again {
		s.Tick()
	}
	list(t, "nothing is sent again", s.Tick())
}

func TestP1503GreaterLifeOfNone(t *testing.T) {
	s := New(1, 2, 5)
	sends(t, s, "a", "b")
	list(t, "Out", s.Out(), Frame{From: 1, To: 2, Mine: 5, Seq: 1, Data: "a", Has: true}, Frame{From: 1, To: 2, Mine: 5, Seq: 2, Data: "b", Has: true})
	list(t, "each once", s.Out())
	sends(t, s, "c")
	takes(t, "the first life", s, bare1(0))
	is(t, "what waits stays", s.Waiting(), 3)
	list(t, "and was not sent yet", s.Out(), to2(1, 0, "a"), to2(2, 0, "b"), to2(3, 0, "c"))
	list(t, "each once", s.Out())
	f := bare1(0)
	f.Mine = 8
	takes(t, "the next life", s, f)
	is(t, "what waits is forgotten", s.Waiting(), 0)
	list(t, "nothing is owed", s.Out())
}

func TestP1503GreaterLifeWithAnAck(t *testing.T) {
	s := New(1, 2, 5)
	sends(t, s, "a", "b", "c")
	takes(t, "the first life, that has heard one", s, to1(1, 1, "m"), "m")
	is(t, "Waiting", s.Waiting(), 2)
	list(t, "Out", s.Out(), to2(2, 1, "b"), to2(3, 1, "c"))
}

func TestP1503NotToThisLife(t *testing.T) {
	for _, yours := range []int{math.MinInt, -1, 0, 1, 4} {
		s := met(t)
		sends(t, s, "a", "b")
		is(t, "all go", len(s.Out()), 2)
		f := to1(1, 2, "m")
		f.Yours = yours
		takes(t, "to an elder life of self", s, f)
		is(t, "its Ack is not taken", s.Waiting(), 2)
		list(t, "an answer is owed", s.Out(), bare2(0))
		list(t, "but once", s.Out())
		f.Has = false
		takes(t, "without a message", s, f)
		list(t, "an answer is owed, too", s.Out(), bare2(0))
		takes(t, "its message was not taken", s, to1(1, 0, "n"), "n")
	}
}

func TestP1503GreaterLifeThatHasNotHeard(t *testing.T) {
	s := New(1, 2, 5)
	sends(t, s, "a")
	is(t, "it goes", len(s.Out()), 1)
	takes(t, "hello", s, Frame{From: 2, To: 1, Mine: 7, Seq: 1, Ack: 1, Data: "m", Has: true})
	is(t, "Life", s.Life(), 7)
	is(t, "its Ack is not taken", s.Waiting(), 1)
	list(t, "the message answers", s.Out(), to2(1, 0, "a"))
	list(t, "nothing is owed", s.Out())
	takes(t, "a greater one", s, Frame{From: 2, To: 1, Mine: 8, Seq: 1, Ack: 1, Data: "m", Has: true})
	is(t, "Waiting", s.Waiting(), 0)
	list(t, "an answer", s.Out(), Frame{From: 1, To: 2, Mine: 5, Yours: 8})
}

func TestP1503GreatestNumbers(t *testing.T) {
	s := New(1, 2, math.MaxInt)
	f := Frame{From: 2, To: 1, Mine: math.MaxInt, Yours: math.MaxInt, Seq: 1, Data: "m", Has: true}
	takes(t, "the greatest lives", s, f, "m")
	list(t, "Out", s.Out(), Frame{From: 1, To: 2, Mine: math.MaxInt, Yours: math.MaxInt, Ack: 1})
	f.Mine--
	refuses(t, "an elder one", s, f)
}

func TestP1504(t *testing.T) {
	s := New(4, 9, 2)
	is(t, "Peer", s.Peer(), 9)
	is(t, "Life of none", s.Life(), 0)
	is(t, "Waiting of none", s.Waiting(), 0)
	sends(t, s, "a", "b")
	is(t, "not sent yet", s.Waiting(), 2)
	s.Out()
	is(t, "sent", s.Waiting(), 2)
	for range 3 * Again {
		s.Tick()
	}
	is(t, "sent again", s.Waiting(), 2)
	takes(t, "heard of", s, Frame{From: 9, To: 4, Mine: 3, Yours: 2, Ack: 1})
	is(t, "acked", s.Waiting(), 1)
	is(t, "Life", s.Life(), 3)
	is(t, "Peer stays", s.Peer(), 9)
}

func TestP1505None(t *testing.T) {
	var zero Session
	for what, s := range map[string]*Session{"nil": nil, "zero": &zero} {
		is(t, what+": Send", s.Send("m"), api.ErrArg)
		is(t, what+": Send of too much", s.Send(strings.Repeat("z", 3001)), api.ErrArg)
		refuses(t, what, s, Frame{Mine: 1, Seq: 1, Has: true})
		refuses(t, what, s, Frame{})
		refuses(t, what, s, to1(1, 0, "m"))
		list(t, what+": Out", s.Out())
		list(t, what+": Tick", s.Tick())
		is(t, what+": Waiting", s.Waiting(), 0)
		is(t, what+": Peer", s.Peer(), 0)
		is(t, what+": Life", s.Life(), 0)
	}
	is(t, "it stays a zero one", zero.waits == nil && zero.ahead == nil, true)
}

func TestExample(t *testing.T) {
	a, b := New(1, 2, 1), New(2, 1, 1)
	is(t, "a.Send", a.Send("x"), api.OK)
	takes(t, "b", b, a.Out()[0])
	takes(t, "a", a, b.Out()[0])
	takes(t, "b", b, a.Out()[0], "x")
}

// model is a session as the chapter tells it, by plain lists.
type model struct {
	self, peer, mine, yours int
	queue                   []waiting
	next                    int // the next Seq
	now                     int // ticks
	kept                    map[int]string
	told                    int
	owed                    bool
}

type waiting struct {
	seq  int
	data string
	sent bool
	at   int
}

func newModel(self, peer, life int) *model {
	return &model{self: self, peer: peer, mine: life, next: 1, kept: map[int]string{}}
}

func (m *model) send(data string) api.Errno {
	if len(data) > 3000 {
		return api.ErrLong
	}
	if len(m.queue) == 64 {
		return api.ErrFull
	}
	m.queue = append(m.queue, waiting{seq: m.next, data: data})
	m.next++
	return api.OK
}

func (m *model) out() []Frame {
	var l []Frame
	f := Frame{From: m.self, To: m.peer, Mine: m.mine, Yours: m.yours, Ack: m.told}
	for k := range m.queue {
		if q := &m.queue[k]; !q.sent {
			q.sent, q.at = true, m.now
			g := f
			g.Seq, g.Data, g.Has = q.seq, q.data, true
			l = append(l, g)
		}
	}
	if m.owed && len(l) == 0 {
		l = append(l, f)
	}
	m.owed = false
	return l
}

func (m *model) tick() []Frame {
	m.now++
	for k := range m.queue {
		if q := &m.queue[k]; q.sent && m.now-q.at >= 4 {
			q.sent = false
		}
	}
	return m.out()
}

func (m *model) take(f Frame) ([]string, bool) {
	if f.From != m.peer || f.To != m.self || f.Mine < 1 || f.Mine < m.yours || f.Yours > m.mine {
		return nil, false
	}
	if f.Mine > m.yours {
		if m.yours != 0 {
			m.queue = nil
		}
		m.yours, m.kept, m.told, m.next = f.Mine, map[int]string{}, 0, 1
		for k := range m.queue {
			m.queue[k] = waiting{seq: m.next, data: m.queue[k].data}
			m.next++
		}
	}
	if f.Yours != m.mine {
		m.owed = true
		return nil, true
	}
	m.queue = slices.DeleteFunc(m.queue, func(q waiting) bool { return q.seq <= f.Ack })
	if !f.Has {
		return nil, true
	}
	m.owed = true
	if _, is := m.kept[f.Seq]; !is && f.Seq > m.told && f.Seq <= m.told+1+64 {
		m.kept[f.Seq] = f.Data
	}
	var l []string
	for {
		data, is := m.kept[m.told+1]
		if !is {
			return l, true
		}
		m.told++
		l = append(l, data)
	}
}

// early tells how many messages were heard ahead of one that is to be told first.
func (m *model) early() int {
	n := 0
	for seq := range m.kept {
		if seq > m.told {
			n++
		}
	}
	return n
}

// dice tells numbers in a row that is the same each time.
type dice struct{ seed uint32 }

func (d *dice) roll(n int) int {
	d.seed = d.seed*1664525 + 1013904223
	return int(d.seed>>8) % n
}

// anyFrame tells one that is mostly near what the model waits for.
func (d *dice) anyFrame(m *model) Frame {
	f := Frame{From: m.peer, To: m.self, Mine: max(m.yours, 1), Yours: m.mine, Has: d.roll(5) > 0}
	f.Seq = m.told + d.roll(6) - 1
	f.Ack = m.next - 1 - d.roll(6)
	f.Data = strconv.Itoa(d.roll(1000))
	switch d.roll(60) {
	case 0:
		f.From++
	case 1:
		f.To++
	case 2:
		f.Mine += d.roll(5) - 2
	case 3, 4:
		f.Yours += d.roll(4) - 2
	case 5:
		f.Ack = d.roll(2000) - 1000
	case 6, 7, 8:
		f.Seq = m.told + 60 + d.roll(10)
	case 9:
		f.Ack = m.next + 2
	case 10:
		f.Seq = math.MaxInt - d.roll(2)
	}
	return f
}

func TestP1503RowsOfCalls(t *testing.T) {
	for row := range 60 {
		d := &dice{seed: uint32(row)}
		s, m := New(1, 2, 3), newModel(1, 2, 3)
		for step := range 1500 {
			what := "row " + strconv.Itoa(row) + ", step " + strconv.Itoa(step)
			switch d.roll(5 + row%7) {
			case 0:
				list(t, what+": Tick", s.Tick(), m.tick()...)
			case 1:
				list(t, what+": Out", s.Out(), m.out()...)
			case 2, 3:
				f := d.anyFrame(m)
				want, is := m.take(f)
				got, took := s.Take(f)
				if took != is || !slices.Equal(got, want) {
					t.Errorf("%s: Take: %q, %v, not %q, %v", what, got, took, want, is)
				}
			default:
				data := strings.Repeat("s", 2995+d.roll(7))
				is(t, what+": Send", s.Send(data), m.send(data))
			}
			is(t, what+": Waiting", s.Waiting(), len(m.queue))
			is(t, what+": Life", s.Life(), m.yours)
			is(t, what+": kept ahead", len(s.ahead), m.early())
			if t.Failed() {
				return
			}
		}
	}
}

// pair is two lives that talk: from and to.
type pair struct{ from, to int }

// end is one end of a storm, with what was sent and told by each of its lives.
type end struct {
	*Session
	self, life int
	sent       map[pair][]string // of a life, to a life of the other end (0: to none yet)
	told       map[pair][]string // of a life of the other end, to a life
	count      int
}

func newEnd(self int) *end {
	return &end{Session: New(self, 3-self, 1), self: self, life: 1, sent: map[pair][]string{}, told: map[pair][]string{}}
}

func (e *end) again(by int) {
	e.life += by
	e.Session = New(e.self, 3-e.self, e.life)
}

func (e *end) say() {
	e.count++
	data := strconv.Itoa(e.count)
	if e.Send(data) == api.OK {
		k := pair{e.life, e.Life()}
		e.sent[k] = append(e.sent[k], data)
	}
}

func (e *end) hear(f Frame) {
	before := e.Life()
	l, _ := e.Take(f)
	if k := (pair{e.life, e.Life()}); before == 0 && k.to != 0 {
		e.sent[k] = e.sent[pair{e.life, 0}]
	}
	k := pair{e.Life(), e.life}
	e.told[k] = append(e.told[k], l...)
}

// storm is a net that loses, doubles and swaps what goes over it.
type storm struct {
	t    *testing.T
	dice *dice
	ends [3]*end // 1 and 2
	way  []string
}

func (w *storm) put(l []Frame) {
	for _, f := range l {
		b, err := Put(f)
		is(w.t, "Put", err, api.OK)
		w.way = append(w.way, b)
	}
}

func (w *storm) deliver(k int) {
	b := w.way[k]
	w.way = slices.Delete(w.way, k, k+1)
	f, err := Get(b)
	is(w.t, "Get", err, api.OK)
	w.ends[f.To].hear(f)
}

// blow is one step of the storm.
func (w *storm) blow(restarts bool) {
	e := w.ends[1+w.dice.roll(2)]
	switch w.dice.roll(12) {
	case 0, 1:
		e.say()
	case 2:
		w.put(e.Tick())
	case 3:
		w.put(e.Out())
	case 4:
		if restarts && w.dice.roll(20) == 0 {
			e.again(1 + w.dice.roll(3))
		}
	}
	if len(w.way) == 0 {
		return
	}
	k := w.dice.roll(len(w.way))
	switch w.dice.roll(6) {
	case 0:
		w.way = slices.Delete(w.way, k, k+1)
	case 1:
		w.way = append(w.way, w.way[k])
	case 2, 3:
		w.deliver(k)
	}
}

// calm carries all, till nothing is sent any more.
func (w *storm) calm() {
	quiet := 0
	for round := 0; quiet < 3*Again; round++ {
		if round > 300 {
			w.t.Fatal("it is never quiet")
		}
		w.put(w.ends[1].Tick())
		w.put(w.ends[2].Tick())
		quiet++
		if len(w.way) > 0 {
			quiet = 0
		}
		for range len(w.way) {
			w.deliver(0)
		}
	}
}

// judge holds what one end was told against what the other one sent: it is told ahead of what was sent, or all of it.
func (w *storm) judge(from, to *end) {
	for k, told := range to.told {
		sent := from.sent[k]
		if len(told) > len(sent) || !slices.Equal(told, sent[:len(told)]) {
			w.t.Errorf("of %v: %q were told, of %q", k, told, sent)
		}
	}
	last := pair{from.life, to.life}
	list(w.t, "all of the last lives", to.told[last], from.sent[last]...)
	is(w.t, "Waiting", from.Waiting(), 0)
}

func TestP1505Storms(t *testing.T) {
	for row := range 80 {
		w := &storm{t: t, dice: &dice{seed: uint32(row)}, ends: [3]*end{nil, newEnd(1), newEnd(2)}}
		for range 3000 {
			w.blow(row%2 == 1)
		}
		for _, e := range w.ends[1:] {
			e.say() // so that each end has something to tell
		}
		w.calm()
		w.judge(w.ends[1], w.ends[2])
		w.judge(w.ends[2], w.ends[1])
		list(t, "nothing is sent any more", append(w.ends[1].Out(), w.ends[2].Out()...))
		if t.Failed() {
			t.Log("row", row)
			return
		}
	}
}

func TestReadme(t *testing.T) {
	a, b := New(1, 2, 1), New(2, 1, 1)
	sends(t, a, "x")
	takes(t, "b, of no life", b, a.Out()[0])
	takes(t, "a", a, b.Out()[0])
	text, err := Put(a.Out()[0])
	is(t, "Put", err, api.OK)
	f, err := Get(text)
	is(t, "Get", err, api.OK)
	is(t, "the frame", f, Frame{From: 1, To: 2, Mine: 1, Yours: 1, Seq: 1, Data: "x", Has: true})
	takes(t, "b", b, f, "x")
	takes(t, "b again", b, f)
	is(t, "Waiting", a.Waiting(), 1)
	takes(t, "a, that is acked", a, b.Out()[0])
	is(t, "Waiting", a.Waiting(), 0)
	list(t, "b is quiet", b.Out())
	refuses(t, "of another end", b, Frame{})
}
