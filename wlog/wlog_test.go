package wlog

import (
	"math"
	"slices"
	"strings"
	"testing"

	"commons/api"
	"commons/rec"
	"commons/sdisk"
	"commons/super"
)

// is holds one answer against what is wanted.
func is[T comparable](t *testing.T, what string, got, want T) {
	t.Helper()
	if got != want {
		t.Errorf("%s: %#v, not %#v", what, got, want)
	}
}

// shapeOf has three nodes with logs of so many sectors.
func shapeOf(log int) api.Shape {
	return api.Shape{Nodes: 3, Blocks: 70, Log: log, Cache: 4, Lease: 32}
}

// epoch is the one that node 2 has on each disk here; the nodes beside it have the ones beside it.
const epoch = 102

// diskOf makes a formatted disk on which the nodes 1 to 3 have the epochs 101 to 103.
func diskOf(t *testing.T, log int) (*sdisk.Disk, super.Layout) {
	t.Helper()
	s := shapeOf(log)
	d := sdisk.New(super.Size(s))
	is(t, "Format", super.Format(d, s), api.OK)
	for node := 1; node <= 3; node++ {
		is(t, "Admit", d.Admit(node, uint64(100+node)), api.OK)
	}
	return d, super.Layout{Shape: s}
}

// logOf opens the log of node 2, of so many sectors.
func logOf(t *testing.T, log int) (*Log, *sdisk.Disk) {
	t.Helper()
	d, l := diskOf(t, log)
	g, e := Open(d, l, 2, epoch)
	is(t, "Open", e, api.OK)
	return g, d
}

// start is the first sector of node 2's log, behind the superblock and the log of node 1.
func start(log int) int { return 1 + log }

// images has n of them, whose bytes k tells from those of others.
func images(n, k int) []api.Image {
	l := make([]api.Image, n)
	for j := range l {
		b := make([]byte, api.Data)
		for at := range b {
			b[at] = byte(k*31 + j*7 + at)
		}
		l[j] = api.Image{Block: j, Version: uint64(k + 1), Data: string(b)}
	}
	return l
}

// textOf tells the bytes of a record of node 2.
func textOf(t *testing.T, lsn uint64, l []api.Image) string {
	t.Helper()
	b, e := rec.Put(rec.Record{Epoch: epoch, Lsn: lsn, Images: l})
	is(t, "rec.Put", e, api.OK)
	return b
}

// headOf tells the bytes of a head of node 2.
func headOf(t *testing.T, lsn uint64, at int) string {
	t.Helper()
	b, e := rec.PutHead(rec.Head{Epoch: epoch, Lsn: lsn, At: at})
	is(t, "rec.PutHead", e, api.OK)
	return b
}

// read tells some sectors.
func read(t *testing.T, d *sdisk.Disk, at, n int) string {
	t.Helper()
	b, e := d.Read(at, n)
	is(t, "Read", e, api.OK)
	return b
}

// all reads every sector of a disk.
func all(t *testing.T, d *sdisk.Disk) string {
	t.Helper()
	b := ""
	for at := 0; at < d.Sectors(); at += 400 {
		b += read(t, d, at, min(400, d.Sectors()-at))
	}
	return b
}

// lasting reads what every sector has behind a Cut that keeps so much.
func lasting(t *testing.T, d *sdisk.Disk, keep ...int) string {
	t.Helper()
	x := d.Twin()
	x.Cut(keep...)
	x.Restore()
	return all(t, x)
}

// ones keeps the first n sectors that wait.
func ones(n int) []int {
	l := make([]int, n)
	for k := range l {
		l[k] = 1
	}
	return l
}

// state is all that can be asked of a log.
type state struct {
	next, written, synced, first uint64
	used, pending                int
	broken                       bool
	fits                         int // the greatest number of images that fit; 0: none
}

func stateOf(t *testing.T, g *Log) state {
	t.Helper()
	s := state{
		next: g.Next(), written: g.Written(), synced: g.Synced(), first: g.First(),
		used: g.Used(), pending: g.Pending(), broken: g.Broken(),
	}
	for s.fits < 100 && g.Fits(s.fits+1) {
		s.fits++
	}
	for n := s.fits + 1; n < 300; n++ { // none of the greater ones
		is(t, "Fits of more", g.Fits(n), false)
	}
	for _, n := range []int{0, -1, math.MinInt, math.MaxInt, 1 << 32, 1<<32 + 1, 1<<63 - 60} {
		is(t, "Fits of a number that is none", g.Fits(n), false)
	}
	return s
}

// adds adds n images, as the transaction of a number.
func adds(t *testing.T, g *Log, lsn uint64, n int) {
	t.Helper()
	got, e := g.Add(images(n, int(lsn))...)
	is(t, "Add's error", e, api.OK)
	is(t, "Add", got, lsn)
}

// addsNone holds that Add tells an error, and changes nothing.
func addsNone(t *testing.T, what string, g *Log, want api.Errno, l ...api.Image) {
	t.Helper()
	before := stateOf(t, g)
	lsn, e := g.Add(l...)
	is(t, what+": the error", e, want)
	is(t, what+": no number", lsn, 0)
	is(t, what+": nothing is changed", stateOf(t, g), before)
}

func writes(t *testing.T, g *Log, want int) {
	t.Helper()
	n, e := g.Write()
	is(t, "Write's error", e, api.OK)
	is(t, "Write", n, want)
}

func syncs(t *testing.T, g *Log) {
	t.Helper()
	is(t, "Sync", g.Sync(), api.OK)
}

func frees(t *testing.T, g *Log, below uint64) {
	t.Helper()
	is(t, "Free", g.Free(below), api.OK)
}

// callsOf tells at how many calls of the disk the power may go in what is done with a log:
// so many Writes and Barriers it does.
func callsOf(t *testing.T, fresh func() (*Log, *sdisk.Disk), do func(*Log)) int {
	t.Helper()
	for n := range 100 {
		g, d := fresh()
		d.Arm(n)
		do(g)
		if d.On() {
			return n
		}
	}
	return -1
}

// sectorsOf tells how many sectors a record has, most how many images one of a log may have.
func sectorsOf(images int) int { return (images*108 + 41) / 42 }

func most(log int) int {
	n := 0
	for n < 60 && sectorsOf(n+1) <= (log-1)/2 {
		n++
	}
	return n
}

func TestExample(t *testing.T) {
	g, _ := logOf(t, 20)
	adds(t, g, 1, 1)
	syncs(t, g)
	adds(t, g, 2, 1)
	is(t, "all of it", stateOf(t, g), state{next: 3, written: 1, synced: 1, first: 1, used: 6, pending: 1, fits: 3})
}

func TestP1201Open(t *testing.T) {
	for _, log := range []int{8, 9, 33, 256} {
		d, l := diskOf(t, log)
		before := all(t, d)
		g, e := Open(d, l, 2, epoch)
		is(t, "Open", e, api.OK)
		is(t, "an empty log", stateOf(t, g), state{next: 1, first: 1, fits: most(log)})
		is(t, "nothing waits", d.Waiting(2), 0)
		at := start(log) * api.Sector
		is(t, "the head, and nothing else", all(t, d) == before[:at]+headOf(t, 1, 0)+before[at+api.Sector:], true)
		is(t, "it lasts", lasting(t, d) == all(t, d), true)
	}
}

// TestP1201EachNode opens the log of each node, also of the first and the last one, each in its own sectors.
func TestP1201EachNode(t *testing.T) {
	d, l := diskOf(t, 10)
	for node := 1; node <= 3; node++ {
		g, e := Open(d, l, node, uint64(100+node))
		is(t, "Open", e, api.OK)
		adds(t, g, 1, 1)
		syncs(t, g)
	}
	for node := 1; node <= 3; node++ {
		b := read(t, d, 1+10*(node-1), 10)
		h, e := rec.GetHead(b[:api.Sector])
		is(t, "GetHead", e, api.OK)
		is(t, "the head", h, rec.Head{Epoch: uint64(100 + node), Lsn: 1})
		r, n, e := rec.Get(b[api.Sector:])
		is(t, "Get", e, api.OK)
		is(t, "whose it is", r.Epoch, uint64(100+node))
		is(t, "behind it", strings.Trim(b[(1+n)*api.Sector:], "\x00"), "")
	}
}

// opensNone holds that Open tells an error and no log, and changes nothing that a disk has.
func opensNone(t *testing.T, what string, d *sdisk.Disk, l super.Layout, node int, epoch uint64, want api.Errno) {
	t.Helper()
	before := ""
	if d.On() {
		before = all(t, d)
	}
	g, e := Open(d, l, node, epoch)
	is(t, what+": the error", e, want)
	is(t, what+": no log", g == nil, true)
	if d.On() {
		is(t, what+": nothing is changed", all(t, d) == before, true)
	}
}

func TestP1201OpenErrors(t *testing.T) {
	d, l := diskOf(t, 20)
	opensNone(t, "no disk", nil, l, 1, 101, api.ErrArg)
	opensNone(t, "no disk ahead of the node", nil, l, 9, 101, api.ErrArg)
	opensNone(t, "no layout", d, super.Layout{}, 2, epoch, api.ErrArg)
	opensNone(t, "no layout ahead of the node", d, super.Layout{}, 0, epoch, api.ErrArg)
	wrong := l
	wrong.Shape.Log = 257
	opensNone(t, "a log that is too long", d, wrong, 1, 101, api.ErrArg)
	for _, node := range []int{0, -1, 4, 16, math.MaxInt, math.MinInt, 1<<32 + 1} {
		opensNone(t, "no such node", d, l, node, 101, api.ErrIndex)
	}
	for _, of := range []uint64{1, 101, 103, math.MaxUint64} {
		opensNone(t, "another epoch", d, l, 2, of, api.ErrFenced)
	}
	opensNone(t, "the epoch 0", d, l, 2, 0, api.ErrArg)
	is(t, "Fence", d.Fence(1), api.OK)
	opensNone(t, "fenced", d, l, 1, 101, api.ErrFenced)
	opensNone(t, "a zero disk", &sdisk.Disk{}, l, 1, 101, api.ErrOff)
	small := sdisk.New(1 + 2*20)
	is(t, "Admit", small.Admit(3, 5), api.OK)
	opensNone(t, "a disk that has no such sector", small, l, 3, 5, api.ErrRange)
	d.Cut()
	opensNone(t, "without power", d, l, 2, epoch, api.ErrOff)
	opensNone(t, "the node ahead of the power", d, l, 4, epoch, api.ErrIndex)
}

// TestP1201PowerGoes has the power go at the head's Write, and at its Barrier; there is no other call.
func TestP1201PowerGoes(t *testing.T) {
	for n, keep := range [][]int{{1, 1}, {0}} {
		d, l := diskOf(t, 20)
		before := all(t, d)
		d.Arm(n, keep...)
		g, e := Open(d, l, 2, epoch)
		is(t, "Open", e, api.ErrOff)
		is(t, "no log", g == nil, true)
		d.Restore()
		is(t, "what lasts", all(t, d) == before, true)
	}
	d, l := diskOf(t, 20)
	d.Arm(2)
	_, e := Open(d, l, 2, epoch)
	is(t, "two calls", e, api.OK)
	is(t, "and no third one", d.On(), true)
}

// TestP1201Anew opens a log over one of an epoch that is gone: nothing of it is found any more.
func TestP1201Anew(t *testing.T) {
	g, d := logOf(t, 20)
	adds(t, g, 1, 2)
	adds(t, g, 2, 1)
	syncs(t, g)
	frees(t, g, 2)
	is(t, "Admit", d.Admit(2, 200), api.OK)
	n, e := Open(d, super.Layout{Shape: shapeOf(20)}, 2, 200)
	is(t, "Open", e, api.OK)
	is(t, "an empty log", stateOf(t, n), state{next: 1, first: 1, fits: 3})
	is(t, "no records", len(scan(t, d, 20)), 0)
	h, e := rec.GetHead(read(t, d, start(20), 1))
	is(t, "GetHead", e, api.OK)
	is(t, "the head", h, rec.Head{Epoch: 200, Lsn: 1})
	_, e = g.Add(images(1, 3)...)
	is(t, "the older one takes records still", e, api.OK)
	_, e = g.Write()
	is(t, "but the disk does not", e, api.ErrFenced)
}

func TestP1202Add(t *testing.T) {
	g, d := logOf(t, 33)
	before := all(t, d)
	used := 0
	for k, n := range []int{1, 3, 2, 1} {
		adds(t, g, uint64(k+1), n)
		used += sectorsOf(n)
		is(t, "Used", g.Used(), used)
		is(t, "Pending", g.Pending(), k+1)
		is(t, "Next", g.Next(), uint64(k+2))
		is(t, "Written", g.Written(), 0)
		is(t, "First", g.First(), 1)
	}
	is(t, "nothing is written", all(t, d) == before, true)
	is(t, "nothing waits", d.Waiting(2), 0)
}

// TestP1202Edges adds the most images that a log takes, and one more.
func TestP1202Edges(t *testing.T) {
	for _, log := range []int{8, 9, 12, 13, 14, 33, 100, 200, 255, 256} {
		g, _ := logOf(t, log)
		is(t, "the most", most(log), rec.Most(log))
		addsNone(t, "one more", g, api.ErrTxTooBig, images(most(log)+1, 1)...)
		adds(t, g, 1, most(log))
		addsNone(t, "one more, behind another one", g, api.ErrTxTooBig, images(most(log)+1, 1)...)
		adds(t, g, 2, most(log)) // each has half of it
	}
}

// TestP1202Full fills a log up to its last sector, and up to less than a record's sectors ahead of it.
func TestP1202Full(t *testing.T) {
	for log, left := range map[int]int{13: 0, 14: 1, 15: 2, 16: 0, 19: 0, 20: 1} {
		g, _ := logOf(t, log)
		for lsn := range (log - 1) / 3 {
			is(t, "Fits", g.Fits(1), true)
			adds(t, g, uint64(lsn+1), 1)
		}
		is(t, "Used", g.Used(), log-1-left)
		is(t, "Fits", g.Fits(1), false)
		addsNone(t, "full of pending ones", g, api.ErrFull, images(1, 1)...)
		addsNone(t, "too big ahead of full", g, api.ErrTxTooBig, images(most(log)+1, 1)...)
		addsNone(t, "wrong ahead of full", g, api.ErrArg)
		writes(t, g, (log-1)/3)
		addsNone(t, "full of written ones", g, api.ErrFull, images(1, 1)...)
		syncs(t, g)
		addsNone(t, "full of synced ones", g, api.ErrFull, images(1, 1)...)
		frees(t, g, 2)
		is(t, "one is free", g.Fits(1), true)
		adds(t, g, g.Next(), 1)
		addsNone(t, "full again", g, api.ErrFull, images(1, 1)...)
	}
}

// TestP1202Room has room for a record of fewer sectors, but not for one of more.
func TestP1202Room(t *testing.T) {
	g, _ := logOf(t, 20)
	adds(t, g, 1, 3)
	adds(t, g, 2, 1)
	is(t, "Used", g.Used(), 11)
	is(t, "three have eight sectors", g.Fits(3), true)
	adds(t, g, 3, 1)
	is(t, "two have six", g.Fits(2), false)
	addsNone(t, "two", g, api.ErrFull, images(2, 1)...)
	is(t, "one has three", g.Fits(1), true)
	adds(t, g, 4, 1)
	is(t, "two sectors are left", g.Used(), 17)
	addsNone(t, "one", g, api.ErrFull, images(1, 1)...)
}

func TestP1202AddErrors(t *testing.T) {
	g, _ := logOf(t, 8)
	good := images(2, 1)
	short, far := images(1, 1), images(1, 1)
	short[0].Data = short[0].Data[1:]
	far[0].Block = api.MaxBlocks
	addsNone(t, "no image", g, api.ErrArg)
	addsNone(t, "an image that may not be", g, api.ErrArg, short...)
	addsNone(t, "a block that may not be", g, api.ErrArg, far...)
	addsNone(t, "one twice", g, api.ErrArg, good[0], good[0])
	addsNone(t, "not rising", g, api.ErrArg, good[1], good[0])
	addsNone(t, "wrong ahead of too big", g, api.ErrArg, good[0], good[1], good[1])
	addsNone(t, "rec.Put's ErrLong ahead of too big", g, api.ErrLong, images(61, 1)...)
	addsNone(t, "the most of any record", g, api.ErrTxTooBig, images(60, 1)...)
	adds(t, g, 1, 1) // no number is lost by an error
}

// TestP1202Keeps changes what was handed in behind Add: what is written is as it was.
func TestP1202Keeps(t *testing.T) {
	g, d := logOf(t, 20)
	l := images(3, 1)
	_, e := g.Add(l...)
	is(t, "Add", e, api.OK)
	is(t, "nothing is written into it", slices.Equal(l, images(3, 1)), true)
	clear(l)
	writes(t, g, 1)
	want := textOf(t, 1, images(3, 1))
	is(t, "what is written", read(t, d, start(20)+1, 8) == want, true)
}

func TestP1203Write(t *testing.T) {
	g, d := logOf(t, 33)
	writes(t, g, 0)
	is(t, "nothing is written of none", d.Waiting(2), 0)
	adds(t, g, 1, 1)
	adds(t, g, 2, 4)
	adds(t, g, 3, 2)
	before := lasting(t, d)
	writes(t, g, 3)
	is(t, "all of it", stateOf(t, g), state{next: 4, written: 3, first: 1, used: 20, fits: 4})
	want := textOf(t, 1, images(1, 1)) + textOf(t, 2, images(4, 2)) + textOf(t, 3, images(2, 3))
	is(t, "at their places", read(t, d, start(33), 21) == headOf(t, 1, 0)+want, true)
	is(t, "what waits", d.Waiting(2), 20)
	is(t, "nothing lasts yet", lasting(t, d) == before, true)
	writes(t, g, 0)
	is(t, "nothing is written twice", d.Waiting(2), 20)
	adds(t, g, 4, 1)
	writes(t, g, 1)
	is(t, "behind them", read(t, d, start(33)+21, 3) == textOf(t, 4, images(1, 4)), true)
	is(t, "what waits behind it", d.Waiting(2), 23)
}

// order tells the sectors of the log one by one, in the order in which they wait to last.
func order(t *testing.T, d *sdisk.Disk, log int) []int {
	t.Helper()
	base := lasting(t, d)
	var l []int
	for k := range d.Waiting(2) {
		x := lasting(t, d, append(make([]int, k), 1)...)
		for at := range d.Sectors() {
			if x[at*api.Sector:(at+1)*api.Sector] != base[at*api.Sector:(at+1)*api.Sector] {
				l = append(l, at-start(log))
			}
		}
	}
	return l
}

// atPlace makes a log of which all is free, and whose next record stands at a place. Records of three
// and of eight sectors go there, round the end if need be.
func atPlace(t *testing.T, log, place int) (*Log, *sdisk.Disk) {
	t.Helper()
	g, d := logOf(t, log)
	for eights := []int{0, 16, 8}; place < eights[place%3]; {
		place += log - 1
	}
	for place > 0 {
		n := 1
		if place%3 != 0 {
			n = 3
		}
		adds(t, g, g.Next(), n)
		syncs(t, g)
		frees(t, g, g.Next())
		place -= sectorsOf(n)
	}
	return g, d
}

func TestP1203Round(t *testing.T) {
	for left := 1; left <= 8; left++ {
		g, d := atPlace(t, 20, 19-left)
		lsn, zeros := g.Next(), strings.Repeat("\x00", api.Sector)
		adds(t, g, lsn, 3)
		writes(t, g, 1)
		want := textOf(t, lsn, images(3, int(lsn)))
		got := read(t, d, start(20)+1, 19)
		is(t, "ahead of the end", got[(19-left)*api.Sector:] == want[:left*api.Sector], true)
		is(t, "at the first places", got[:(8-left)*api.Sector] == want[left*api.Sector:], true)
		is(t, "the head is as it was", read(t, d, start(20), 1) == headOf(t, lsn, 19-left), true)
		is(t, "the next log is as it was", read(t, d, start(20)+20, 1) == zeros, true)
		var places []int
		for k := range 8 {
			places = append(places, 1+(19-left+k)%19)
		}
		is(t, "in order", slices.Equal(order(t, d, 20), places), true)
		syncs(t, g)
		adds(t, g, lsn+1, 1) // behind it
		writes(t, g, 1)
		is(t, "behind it", read(t, d, start(20)+1+8-left, 3) == textOf(t, lsn+1, images(1, int(lsn+1))), true)
	}
}

// TestP1203Cuts has the power go at each Write of a great record: that tells how many sectors each one
// has. So many places are left up to the end; behind each Write so many sectors of the record are there.
func TestP1203Cuts(t *testing.T) {
	for left, cuts := range map[int][]int{
		255: {0, 16, 32, 48, 64, 80, 96, 112, 126},
		126: {0, 16, 32, 48, 64, 80, 96, 112, 126},
		120: {0, 16, 32, 48, 64, 80, 96, 112, 120, 126},
		48:  {0, 16, 32, 48, 64, 80, 96, 112, 126},
		33:  {0, 16, 32, 33, 49, 65, 81, 97, 113, 126},
		3:   {0, 3, 19, 35, 51, 67, 83, 99, 115, 126},
	} {
		for n, done := range cuts {
			g, d := atPlace(t, 256, 255-left)
			before, lsn := read(t, d, start(256)+1, 255), g.Next()
			adds(t, g, lsn, 49)
			d.Arm(n, ones(300)...)
			want := []byte(before)
			for k, c := range []byte(textOf(t, lsn, images(49, int(lsn)))[:done*api.Sector]) {
				want[((255-left)*api.Sector+k)%len(want)] = c
			}
			if k, e := g.Write(); n < len(cuts)-1 {
				is(t, "Write's error", e, api.ErrOff)
				is(t, "Write", k, 0)
			}
			is(t, "all is written", d.On(), n == len(cuts)-1)
			d.Restore()
			is(t, "what is written", read(t, d, start(256)+1, 255) == string(want), true)
		}
	}
}

// TestP1203EachRecord writes each record by writes of its own: two records of three sectors are two writes.
func TestP1203EachRecord(t *testing.T) {
	fresh := func() (*Log, *sdisk.Disk) {
		g, d := logOf(t, 33)
		for lsn := range uint64(4) {
			adds(t, g, lsn+1, 1)
		}
		return g, d
	}
	is(t, "Write", callsOf(t, fresh, func(g *Log) { g.Write() }), 4)
	is(t, "Sync", callsOf(t, fresh, func(g *Log) { g.Sync() }), 5)
}

// TestP1203Broken has the power go at each call of a Write of several records, of which one goes round.
func TestP1203Broken(t *testing.T) {
	for n, written := range []int{0, 1, 1, 2} {
		g, d := atPlace(t, 20, 14)
		last := g.Next() - 1
		adds(t, g, last+1, 1) // up to two ahead of the end
		adds(t, g, last+2, 2) // two there, four at the first places
		adds(t, g, last+3, 1)
		want := stateOf(t, g)
		d.Arm(n, ones(20)...)
		k, e := g.Write()
		is(t, "Write's error", e, api.ErrOff)
		is(t, "Write", k, 0)
		want.written, want.pending, want.broken, want.fits = last+uint64(written), 3-written, true, 0
		is(t, "all of it", stateOf(t, g), want)
		d.Restore()
		is(t, "what is found", len(scan(t, d, 20)), written)
		refuses(t, g)
	}
}

// refuses holds that a broken log tells ErrState, and changes nothing, whatever is asked of it.
func refuses(t *testing.T, g *Log) {
	t.Helper()
	before := stateOf(t, g)
	is(t, "Broken", before.broken, true)
	addsNone(t, "Add", g, api.ErrState, images(1, 1)...)
	addsNone(t, "Add of what is wrong", g, api.ErrState)
	addsNone(t, "Add of what is too long", g, api.ErrState, images(61, 1)...)
	n, e := g.Write()
	is(t, "Write's error", e, api.ErrState)
	is(t, "Write", n, 0)
	is(t, "Sync", g.Sync(), api.ErrState)
	for _, below := range []uint64{0, 1, g.First(), g.First() + 1, g.Synced() + 1, math.MaxUint64} {
		is(t, "Free", g.Free(below), api.ErrState)
	}
	is(t, "nothing is changed", stateOf(t, g), before)
}

func TestP1203Fenced(t *testing.T) {
	g, d := logOf(t, 20)
	adds(t, g, 1, 1)
	writes(t, g, 1)
	is(t, "Fence", d.Fence(2), api.OK)
	writes(t, g, 0) // asks the disk nothing
	is(t, "Broken", g.Broken(), false)
	is(t, "Sync", g.Sync(), api.ErrFenced)
	is(t, "all of it", stateOf(t, g), state{next: 2, written: 1, first: 1, used: 3, broken: true})
	refuses(t, g)
	is(t, "Admit", d.Admit(2, 200), api.OK)
	refuses(t, g)

	g, d = logOf(t, 20)
	adds(t, g, 1, 1)
	is(t, "Fence", d.Fence(2), api.OK)
	adds(t, g, 2, 1)
	is(t, "Sync", g.Sync(), api.ErrFenced)
	is(t, "all of it", stateOf(t, g), state{next: 3, first: 1, used: 6, pending: 2, broken: true})
}

func TestP1203Sync(t *testing.T) {
	g, d := logOf(t, 33)
	adds(t, g, 1, 1)
	adds(t, g, 2, 2)
	syncs(t, g)
	is(t, "all of it", stateOf(t, g), state{next: 3, written: 2, synced: 2, first: 1, used: 9, fits: 6})
	is(t, "nothing waits", d.Waiting(2), 0)
	is(t, "it lasts", lasting(t, d) == all(t, d), true)
	adds(t, g, 3, 1)
	writes(t, g, 1)
	is(t, "Synced", g.Synced(), 2)
	syncs(t, g) // of what was written ahead of it
	is(t, "Synced behind it", g.Synced(), 3)
	is(t, "it lasts, too", lasting(t, d) == all(t, d), true)
}

// TestP1203NoBarrier syncs where nothing was written: the disk is not asked, whatever it would tell.
func TestP1203NoBarrier(t *testing.T) {
	g, d := logOf(t, 20)
	d.Arm(0)
	syncs(t, g)
	writes(t, g, 0)
	is(t, "the power is there", d.On(), true)
	d.Arm(-1)
	adds(t, g, 1, 1)
	syncs(t, g)
	d.Arm(0)
	syncs(t, g)
	is(t, "the power is there still", d.On(), true)
	d.Cut()
	syncs(t, g)
	is(t, "Synced", g.Synced(), 1)
	is(t, "Broken", g.Broken(), false)
}

func TestP1203BarrierFails(t *testing.T) {
	g, d := logOf(t, 20)
	adds(t, g, 1, 1)
	syncs(t, g)
	adds(t, g, 2, 1)
	d.Arm(1)
	is(t, "Sync", g.Sync(), api.ErrOff)
	is(t, "all of it", stateOf(t, g), state{next: 3, written: 2, synced: 1, first: 1, used: 6, broken: true})
	d.Restore()
	is(t, "what is found", len(scan(t, d, 20)), 1)
	refuses(t, g)
}

func TestP1204Free(t *testing.T) {
	g, d := logOf(t, 33)
	for lsn, n := range []int{1, 4, 2, 3} {
		adds(t, g, uint64(lsn+1), n)
	}
	syncs(t, g)
	for _, c := range []struct {
		below uint64
		place int
		used  int
	}{{2, 3, 25}, {4, 20, 8}, {5, 28, 0}} {
		rest := read(t, d, start(33)+1, 32)
		frees(t, g, c.below)
		is(t, "the head", read(t, d, start(33), 1) == headOf(t, c.below, c.place), true)
		is(t, "the places are as they were", read(t, d, start(33)+1, 32) == rest, true)
		is(t, "First", g.First(), c.below)
		is(t, "Used", g.Used(), c.used)
		is(t, "Next", g.Next(), 5)
		is(t, "Synced", g.Synced(), 4)
		is(t, "it lasts", lasting(t, d) == all(t, d), true)
		is(t, "what is found", len(scan(t, d, 33)), int(5-c.below))
	}
	is(t, "all is free", stateOf(t, g), state{next: 5, written: 4, synced: 4, first: 5, fits: most(33)})
	adds(t, g, 5, 1)
	is(t, "First", g.First(), 5)
}

// TestP1204Place frees up to records that are written, or pending alone: the head has their places.
func TestP1204Place(t *testing.T) {
	g, d := logOf(t, 33)
	adds(t, g, 1, 1)
	adds(t, g, 2, 2)
	syncs(t, g)
	adds(t, g, 3, 3)
	frees(t, g, 3)
	is(t, "the head of one that is pending", read(t, d, start(33), 1) == headOf(t, 3, 9), true)
	is(t, "all of it", stateOf(t, g), state{next: 4, written: 2, synced: 2, first: 3, used: 8, pending: 1, fits: 6})
	adds(t, g, 4, 6)
	adds(t, g, 5, 1)
	syncs(t, g)
	frees(t, g, 4)
	is(t, "the head", read(t, d, start(33), 1) == headOf(t, 4, 17), true)
	frees(t, g, 5)
	is(t, "the head of one behind one that goes round", read(t, d, start(33), 1) == headOf(t, 5, 1), true)
	frees(t, g, 6)
	is(t, "the head of one to come", read(t, d, start(33), 1) == headOf(t, 6, 4), true)
}

// TestP1204End has the next record to come stand at the first place again: the head says 0.
func TestP1204End(t *testing.T) {
	g, d := logOf(t, 13)
	for lsn := range uint64(4) {
		adds(t, g, lsn+1, 1)
	}
	syncs(t, g)
	is(t, "all is used", g.Used(), 12)
	is(t, "what is found of a full one", len(scan(t, d, 13)), 4)
	frees(t, g, 5)
	is(t, "the head", read(t, d, start(13), 1) == headOf(t, 5, 0), true)
	adds(t, g, 5, 1)
	writes(t, g, 1)
	is(t, "where it stands", read(t, d, start(13)+1, 3) == textOf(t, 5, images(1, 5)), true)
}

func TestP1204Errors(t *testing.T) {
	g, d := logOf(t, 33)
	adds(t, g, 1, 1)
	syncs(t, g)
	adds(t, g, 2, 1)
	writes(t, g, 1)
	adds(t, g, 3, 1)
	before, bytes := stateOf(t, g), all(t, d)
	for _, below := range []uint64{3, 4, 5, 100, 1 << 32, 1 << 63, math.MaxUint64} {
		is(t, "Free of one above", g.Free(below), api.ErrArg)
	}
	d.Arm(0)
	for _, below := range []uint64{0, 1} {
		frees(t, g, below) // not above First: the disk is not asked
	}
	is(t, "the power is there", d.On(), true)
	d.Arm(-1)
	is(t, "nothing is changed", stateOf(t, g), before)
	is(t, "nothing is written", all(t, d) == bytes, true)
	frees(t, g, 2)
	d.Arm(0)
	for _, below := range []uint64{0, 1, 2} {
		frees(t, g, below)
	}
	is(t, "the power is there still", d.On(), true)
}

// TestP1204Empty asks an empty log: its First is 1, so there is nothing to write.
func TestP1204Empty(t *testing.T) {
	g, d := logOf(t, 20)
	d.Arm(0)
	frees(t, g, 0)
	frees(t, g, 1)
	is(t, "Free of 2", g.Free(2), api.ErrArg)
	is(t, "the power is there", d.On(), true)
	is(t, "Broken", g.Broken(), false)
}

// TestP1204Barrier frees with a record that was written, but not synced: the Barrier makes it last, too.
func TestP1204Barrier(t *testing.T) {
	g, d := logOf(t, 33)
	adds(t, g, 1, 1)
	syncs(t, g)
	adds(t, g, 2, 1)
	writes(t, g, 1)
	adds(t, g, 3, 1)
	frees(t, g, 2)
	is(t, "all of it", stateOf(t, g), state{next: 4, written: 2, synced: 2, first: 2, used: 6, pending: 1, fits: 6})
	is(t, "nothing waits", d.Waiting(2), 0)
	d.Arm(1)
	is(t, "it lasts: no Barrier behind it but of what is pending", g.Sync(), api.ErrOff)
	d.Restore()
	is(t, "what is found", len(scan(t, d, 33)), 1)
}

// TestP1204PowerGoes has the power go at the head's Write, and at its Barrier: nothing is free then.
func TestP1204PowerGoes(t *testing.T) {
	for n := range 2 {
		for _, keep := range []int{0, 1} {
			g, d := logOf(t, 33)
			adds(t, g, 1, 1)
			adds(t, g, 2, 1)
			syncs(t, g)
			d.Arm(n, keep)
			is(t, "Free", g.Free(2), api.ErrOff)
			is(t, "all of it", stateOf(t, g), state{next: 3, written: 2, synced: 2, first: 1, used: 6, broken: true})
			d.Restore()
			is(t, "what is found", len(scan(t, d, 33)), 2-n*keep)
			refuses(t, g)
		}
	}
	fresh := func() (*Log, *sdisk.Disk) {
		g, d := logOf(t, 33)
		adds(t, g, 1, 1)
		syncs(t, g)
		return g, d
	}
	is(t, "calls of Free", callsOf(t, fresh, func(g *Log) { g.Free(2) }), 2)
	g, d := fresh()
	is(t, "Fence", d.Fence(2), api.OK)
	is(t, "Free of a fenced one", g.Free(2), api.ErrFenced)
	is(t, "First", g.First(), 1)
	refuses(t, g)
}

// TestP1205None asks logs that are none.
func TestP1205None(t *testing.T) {
	for _, g := range []*Log{nil, {}} {
		is(t, "all of it", stateOf(t, g), state{})
		for _, n := range []int{0, 1, 2, 61} {
			addsNone(t, "Add", g, api.ErrArg, images(n, 1)...)
		}
		n, e := g.Write()
		is(t, "Write's error", e, api.ErrArg)
		is(t, "Write", n, 0)
		is(t, "Sync", g.Sync(), api.ErrArg)
		for _, below := range []uint64{0, 1, math.MaxUint64} {
			is(t, "Free", g.Free(below), api.ErrArg)
		}
	}
}

// scan finds what records stand in the log of node 2, from its head on, round, by what the sectors say.
func scan(t *testing.T, d *sdisk.Disk, log int) []rec.Record {
	t.Helper()
	b := read(t, d, start(log), log)
	h, e := rec.GetHead(b[:api.Sector])
	is(t, "GetHead", e, api.OK)
	if h.At > log-2 {
		t.Fatal("the head's place is not there", h)
	}
	at := api.Sector + h.At*api.Sector
	b = b[at:] + b[api.Sector:at]
	var l []rec.Record
	for lsn := h.Lsn; ; lsn++ {
		r, n, e := rec.Get(b)
		if e != api.OK || r.Epoch != h.Epoch || r.Lsn != lsn {
			return l
		}
		l = append(l, r)
		b = b[n*api.Sector:]
	}
}

// model is what a log of node 2 must tell, worked out from all that was ever added.
type model struct {
	log                    int
	added                  [][]api.Image // of the Lsns 1, 2 and so on
	first, written, synced uint64
}

// sectors tells how many sectors the records have from one Lsn on, below another one.
func (m *model) sectors(from, to uint64) int {
	n := 0
	for lsn := from; lsn < to; lsn++ {
		n += sectorsOf(len(m.added[lsn-1]))
	}
	return n
}

func (m *model) next() uint64 { return uint64(len(m.added)) + 1 }

func (m *model) place(lsn uint64) int { return m.sectors(1, lsn) % (m.log - 1) }

func (m *model) state() state {
	s := state{next: m.next(), written: m.written, synced: m.synced, first: m.first}
	s.used = m.sectors(m.first, s.next)
	s.pending = int(s.next - 1 - m.written)
	for s.fits < most(m.log) && s.used+sectorsOf(s.fits+1) <= m.log-1 {
		s.fits++
	}
	return s
}

// dice are numbers that look thrown, and are the same each time.
type dice struct{ at uint64 }

func (d *dice) throw(n int) int {
	d.at = d.at*6364136223846793005 + 1442695040888963407
	return int(d.at>>33) % n
}

func (d *dice) keep() []int {
	l := make([]int, d.throw(300))
	most := 1 + d.throw(8)
	for k := range l {
		l[k] = min(1, d.throw(most))
	}
	return l
}

// step does one call with a log, and with its model; the call's error.
func (m *model) step(t *testing.T, g *Log, x *dice) api.Errno {
	t.Helper()
	switch x.throw(8) {
	case 0, 1, 2:
		return m.add(t, g, x)
	case 3, 4:
		n, e := g.Write()
		if e == api.OK {
			is(t, "Write", n, int(m.next()-1-m.written))
			m.written = m.next() - 1
		}
		return e
	case 5:
		e := g.Sync()
		if e == api.OK {
			m.written = m.next() - 1
			m.synced = m.written
		}
		return e
	}
	return m.free(t, g, x)
}

func (m *model) add(t *testing.T, g *Log, x *dice) api.Errno {
	t.Helper()
	l := images(1+x.throw(most(m.log)), x.throw(250))
	fits := m.state().fits >= len(l)
	lsn, e := g.Add(l...)
	if !fits {
		is(t, "Add's error", e, api.ErrFull)
		is(t, "Add of one that does not fit", lsn, 0)
		return api.OK
	}
	is(t, "Add", lsn, m.next())
	m.added = append(m.added, l)
	return e
}

func (m *model) free(t *testing.T, g *Log, x *dice) api.Errno {
	t.Helper()
	below := m.first + uint64(x.throw(int(m.synced+2-m.first)+1))
	e := g.Free(below)
	switch {
	case below > m.synced+1:
		is(t, "Free's error", e, api.ErrArg)
		return api.OK
	case e == api.OK && below > m.first:
		m.first, m.synced = below, m.written
	}
	return e
}

// finds holds what stands on a disk against the model: from the head's Lsn on some first ones of
// those that were written, and at least all that were synced.
func (m *model) finds(t *testing.T, d *sdisk.Disk, least, most uint64) {
	t.Helper()
	h, e := rec.GetHead(read(t, d, start(m.log), 1))
	is(t, "GetHead", e, api.OK)
	is(t, "the head's Lsn", h.Lsn >= m.first && h.Lsn <= m.synced+1, true)
	is(t, "the head's place", h.At, m.place(h.Lsn))
	l := scan(t, d, m.log)
	last := h.Lsn + uint64(len(l)) - 1
	if last < least || last > most {
		t.Errorf("found up to %d, not from %d to %d", last, least, most)
	}
	for k, r := range l {
		is(t, "its Lsn", r.Lsn, h.Lsn+uint64(k))
		is(t, "its images", slices.Equal(r.Images, m.added[r.Lsn-1]), true)
	}
}

// TestP1205 does many calls one behind the other. Behind each one the power goes on a twin of the disk;
// in the end it goes in the midst of a call. Each time what is found is held against the model.
func TestP1205(t *testing.T) {
	for seed := range 300 {
		x := &dice{at: uint64(seed)}
		log := []int{8, 9, 10, 13, 14, 20, 33, 47, 100, 256}[seed%10]
		g, d := logOf(t, log)
		m := &model{log: log, first: 1}
		calls := x.throw(40)
		for e := api.OK; e == api.OK; calls-- {
			if calls == 0 {
				d.Arm(x.throw(12), x.keep()...)
			}
			if e = m.step(t, g, x); e != api.OK {
				m.breaks(t, g, d, e)
				break
			}
			is(t, "all of it", stateOf(t, g), m.state())
			m.finds(t, d, m.written, m.written)
			cut := d.Twin()
			cut.Cut(x.keep()...)
			cut.Restore()
			m.finds(t, cut, m.synced, m.written)
			if t.Failed() {
				t.Fatal("seed", seed)
			}
		}
		if t.Failed() {
			t.Fatal("seed", seed)
		}
	}
}

// breaks holds a log, and what is found, against the model, where the power went in the midst of a call.
func (m *model) breaks(t *testing.T, g *Log, d *sdisk.Disk, e api.Errno) {
	t.Helper()
	is(t, "the error", e, api.ErrOff)
	is(t, "First", g.First(), m.first)
	is(t, "Synced", g.Synced(), m.synced)
	is(t, "Next", g.Next(), m.next())
	is(t, "Used", g.Used(), m.state().used)
	is(t, "Written and Pending", g.Written()+uint64(g.Pending()), m.next()-1)
	is(t, "Written goes up alone", g.Written() >= m.written, true)
	d.Restore()
	m.finds(t, d, m.synced, g.Written())
	refuses(t, g)
}
