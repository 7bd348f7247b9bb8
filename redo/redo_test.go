package redo

import (
	"math"
	"slices"
	"strings"
	"testing"

	"commons/api"
	"commons/block"
	"commons/rec"
	"commons/sdisk"
	"commons/sum"
	"commons/super"
	"commons/wlog"
)

// is holds one answer against what is wanted.
func is[T comparable](t *testing.T, what string, got, want T) {
	t.Helper()
	if got != want {
		t.Errorf("%s: %#v, not %#v", what, got, want)
	}
}

// On each disk here node 2 is the one whose log is read, of the epoch gone, and node 3 does it again.
const (
	gone  = 102
	by    = 3
	epoch = 103
)

const blocks = 70

func shapeOf(log int) api.Shape {
	return api.Shape{Nodes: 3, Blocks: blocks, Log: log, Cache: 4, Lease: 32}
}

// diskOf makes a formatted disk on which the nodes 1 to 3 have the epochs 101 to 103.
func diskOf(t *testing.T, log int) (*sdisk.Disk, super.Layout) {
	t.Helper()
	s := shapeOf(log)
	d := sdisk.New(super.Size(s))
	is(t, "Format", super.Format(d, s), api.OK)
	for node := 1; node <= 3; node++ {
		is(t, "Admit", d.Admit(node, uint64(100+node)), api.OK)
	}
	return d, super.Layout{Shape: s}
}

// start is the first sector of node 2's log, behind the superblock and the log of node 1.
func start(log int) int { return 1 + log }

func bytes0(n int) string { return strings.Repeat("\x00", n) }

// image has bytes that tell its block and its version from others.
func image(block int, version uint64) api.Image {
	b := make([]byte, api.Data)
	for at := range b {
		b[at] = byte(block*31 + int(version)*7 + at)
	}
	return api.Image{Block: block, Version: version, Data: string(b)}
}

// images has n of them, of a version.
func images(n int, version uint64) []api.Image {
	l := make([]api.Image, n)
	for k := range l {
		l[k] = image(k, version)
	}
	return l
}

func record(of, lsn uint64, n int) rec.Record {
	return rec.Record{Epoch: of, Lsn: lsn, Images: images(n, lsn%100+1)}
}

func textOf(t *testing.T, r rec.Record) string {
	t.Helper()
	b, e := rec.Put(r)
	is(t, "rec.Put", e, api.OK)
	return b
}

func headOf(t *testing.T, of, lsn uint64, at int) string {
	t.Helper()
	b, e := rec.PutHead(rec.Head{Epoch: of, Lsn: lsn, At: at})
	is(t, "rec.PutHead", e, api.OK)
	return b
}

// writes has sectors written by node 2, each by a write of its own; they last.
func writes(t *testing.T, d *sdisk.Disk, at int, text string) {
	t.Helper()
	for ; text != ""; text = text[api.Sector:] {
		is(t, "Write", d.Write(2, gone, at, text[:api.Sector]), api.OK)
		at++
	}
	is(t, "Barrier", d.Barrier(2, gone), api.OK)
}

// lays writes sectors into node 2's log, from a place on, round and round; the place behind them.
func lays(t *testing.T, d *sdisk.Disk, log, place int, text string) int {
	t.Helper()
	for ; text != ""; text = text[api.Sector:] {
		place %= log - 1
		writes(t, d, start(log)+1+place, text[:api.Sector])
		place++
	}
	return place % (log - 1)
}

// logOf makes a disk on which node 2's log has a head, of the first record's Lsn, and records behind its place.
func logOf(t *testing.T, log, place int, l ...rec.Record) (*sdisk.Disk, super.Layout) {
	t.Helper()
	d, la := diskOf(t, log)
	lsn := uint64(1)
	if len(l) > 0 {
		lsn = l[0].Lsn
	}
	writes(t, d, start(log), headOf(t, gone, lsn, place))
	for _, r := range l {
		place = lays(t, d, log, place, textOf(t, r))
	}
	return d, la
}

// read tells some sectors.
func read(t *testing.T, d *sdisk.Disk, at, n int) string {
	t.Helper()
	b, e := d.Read(at, n)
	is(t, "Read", e, api.OK)
	return b
}

// all reads every sector of a disk.
func all(t *testing.T, d *sdisk.Disk) string {
	t.Helper()
	b := ""
	for at := 0; at < d.Sectors(); at += 400 {
		b += read(t, d, at, min(400, d.Sectors()-at))
	}
	return b
}

// lasting reads what every sector has behind a Cut that keeps so much.
func lasting(t *testing.T, d *sdisk.Disk, keep ...int) string {
	t.Helper()
	x := d.Twin()
	x.Cut(keep...)
	x.Restore()
	return all(t, x)
}

// sameRecords tells whether two lists have the same ones.
func sameRecords(a, b []rec.Record) bool {
	return slices.EqualFunc(a, b, func(x, y rec.Record) bool {
		return x.Epoch == y.Epoch && x.Lsn == y.Lsn && slices.Equal(x.Images, y.Images)
	})
}

// scans holds what Scan finds in node 2's log.
func scans(t *testing.T, what string, d *sdisk.Disk, l super.Layout, want ...rec.Record) {
	t.Helper()
	got, e := Scan(d, l, 2)
	is(t, what+": the error", e, api.OK)
	if !sameRecords(got, want) {
		t.Errorf("%s: found %d records, not %d, or other ones", what, len(got), len(want))
	}
}

// scansNone holds that Scan tells an error, and no records.
func scansNone(t *testing.T, what string, d *sdisk.Disk, l super.Layout, node int, want api.Errno) {
	t.Helper()
	got, e := Scan(d, l, node)
	is(t, what+": the error", e, want)
	is(t, what+": no records", len(got), 0)
}

// loads tells a block that is there.
func loads(t *testing.T, d *sdisk.Disk, l super.Layout, number int) api.Image {
	t.Helper()
	i, e := block.Load(d, l, number)
	is(t, "block.Load", e, api.OK)
	return i
}

// stores has a node write blocks; they wait.
func stores(t *testing.T, d *sdisk.Disk, l super.Layout, node int, images ...api.Image) {
	t.Helper()
	for _, i := range images {
		is(t, "block.Store", block.Store(d, l, node, uint64(100+node), i), api.OK)
	}
}

// blockAt tells the first sector of a block.
func blockAt(t *testing.T, l super.Layout, number int) int {
	t.Helper()
	at, e := l.BlockAt(number)
	is(t, "BlockAt", e, api.OK)
	return at
}

// runs holds what Run tells of node 2's log.
func runs(t *testing.T, what string, d *sdisk.Disk, l super.Layout, want int) {
	t.Helper()
	n, e := Run(d, l, 2, gone, by, epoch)
	is(t, what+": the error", e, api.OK)
	is(t, what+": how many", n, want)
}

// applies holds what Apply tells.
func applies(t *testing.T, what string, d *sdisk.Disk, l super.Layout, want int, images ...api.Image) {
	t.Helper()
	n, e := Apply(d, l, by, epoch, images...)
	is(t, what+": the error", e, api.OK)
	is(t, what+": how many", n, want)
}

// appliesNone holds that Apply tells an error.
func appliesNone(t *testing.T, what string, d *sdisk.Disk, l super.Layout, by int, epoch uint64, want api.Errno, images ...api.Image) {
	t.Helper()
	n, e := Apply(d, l, by, epoch, images...)
	is(t, what+": the error", e, want)
	is(t, what+": no number", n, 0)
}

// callsOf tells at how many calls of the disk the power may go in what is done: so many Writes and Barriers it does.
func callsOf(d *sdisk.Disk, do func(*sdisk.Disk)) int {
	for n := range 300 {
		x := d.Twin()
		x.Arm(n)
		do(x)
		if x.On() {
			return n
		}
	}
	return -1
}

// dice are numbers that look thrown, and are the same each time.
type dice struct{ at uint64 }

func (d *dice) throw(n int) int {
	d.at = d.at*6364136223846793005 + 1442695040888963407
	return int(d.at>>33) % n
}

func (d *dice) keep() []int {
	l := make([]int, d.throw(60))
	most := 1 + d.throw(8)
	for k := range l {
		l[k] = min(1, d.throw(most))
	}
	return l
}

func TestExample(t *testing.T) {
	d, l := diskOf(t, 20)
	g, e := wlog.Open(d, l, 2, gone)
	is(t, "Open", e, api.OK)
	_, e = g.Add(image(7, 1))
	is(t, "Add", e, api.OK)
	is(t, "Sync", g.Sync(), api.OK)
	stores(t, d, l, 2, image(7, 1))
	is(t, "Fence", d.Fence(2), api.OK)
	runs(t, "a log whose block was written back", d, l, 0)
	scans(t, "it is empty", d, l)
}

// TestP1301Scan finds records from each place on: more and more of them, up to a log that is full, of
// which the last ones go round the end.
func TestP1301Scan(t *testing.T) {
	for log, sizes := range map[int][]int{8: {1, 1}, 9: {1, 1}, 20: {1, 3, 2}, 19: {2, 2, 2}, 13: {1, 1, 1, 1}, 16: {1, 3, 1}} {
		for place := range log - 1 {
			d, l := logOf(t, log, place)
			scans(t, "none", d, l)
			var want []rec.Record
			at := place
			for k, n := range sizes {
				want = append(want, record(gone, uint64(k+1), n))
				at = lays(t, d, log, at, textOf(t, want[k]))
				scans(t, "one more", d, l, want...)
			}
			for k := range want { // from a head behind some of them on
				writes(t, d, start(log), headOf(t, gone, uint64(k+1), place))
				scans(t, "from one on", d, l, want[k:]...)
				place = (place + rec.Sectors(sizes[k])) % (log - 1)
			}
		}
	}
}

// TestP1301Great has a log of the most sectors, full of records, and one of the most images.
func TestP1301Great(t *testing.T) {
	for _, place := range []int{0, 1, 2, 3, 100, 101, 253, 254} {
		var want []rec.Record
		for lsn := range uint64(85) {
			want = append(want, record(gone, 1000+lsn, 1))
		}
		d, l := logOf(t, 256, place, want...)
		scans(t, "255 sectors of records", d, l, want...)
		want = []rec.Record{record(gone, 9, 60), record(gone, 10, 39)}
		d, l = logOf(t, 256, place, want[0])
		scans(t, "60 images", d, l, want[0])
		lays(t, d, 256, (place+155)%255, textOf(t, want[1])[:100*api.Sector])
		scans(t, "and one that lacks a sector", d, l, want[0])
	}
}

// TestP1301Wlog reads what a log wrote, also behind Free, and round the end.
func TestP1301Wlog(t *testing.T) {
	d, la := diskOf(t, 33)
	g, e := wlog.Open(d, la, 2, gone)
	is(t, "Open", e, api.OK)
	scans(t, "none", d, la)
	var want []rec.Record
	for lsn := uint64(1); lsn < 60; lsn++ {
		r := record(gone, lsn, 1+int(lsn)%6)
		for !g.Fits(len(r.Images)) {
			is(t, "Free", g.Free(g.First()+1), api.OK)
			want = want[1:]
			scans(t, "behind Free", d, la, want...)
		}
		_, e := g.Add(r.Images...)
		is(t, "Add", e, api.OK)
		scans(t, "one that is pending is not there", d, la, want...)
		want = append(want, r)
		_, e = g.Write()
		is(t, "Write", e, api.OK)
		scans(t, "one that is written", d, la, want...)
		is(t, "Sync", g.Sync(), api.OK)
	}
}

// TestP1301Ends ends at the first record that is none such; those behind it are not told, though they are whole.
func TestP1301Ends(t *testing.T) {
	good := func() []rec.Record {
		return []rec.Record{record(gone, 7, 1), record(gone, 8, 2), record(gone, 9, 1), record(gone, 10, 1)}
	}
	for k := range good() {
		for what, change := range map[string]func(r *rec.Record){
			"an older epoch":            func(r *rec.Record) { r.Epoch-- },
			"a later epoch":             func(r *rec.Record) { r.Epoch++ },
			"another epoch in its bits": func(r *rec.Record) { r.Epoch += 1 << 32 },
			"the Lsn ahead of it":       func(r *rec.Record) { r.Lsn-- },
			"the Lsn behind it":         func(r *rec.Record) { r.Lsn++ },
			"an Lsn of long ago":        func(r *rec.Record) { r.Lsn = 1 },
			"an Lsn of more bits":       func(r *rec.Record) { r.Lsn += 1 << 32 },
		} {
			l := good()
			change(&l[k])
			d, la := logOf(t, 20, 15, l...)
			writes(t, d, start(20), headOf(t, gone, 7, 15))
			scans(t, what, d, la, good()[:k]...)
		}
	}
	d, la := logOf(t, 20, 15, good()...)
	place := 15
	for k, r := range good() {
		for n := range rec.Sectors(len(r.Images)) {
			at := start(20) + 1 + (place+n)%19
			was := read(t, d, at, 1)
			for _, other := range []string{bytes0(64), strings.Repeat("?", 64), "x" + was[1:], was[:63] + "x", textOf(t, record(gone, 3, 1))[:64]} {
				writes(t, d, at, other)
				scans(t, "a sector is lost", d, la, good()[:k]...)
			}
			writes(t, d, at, was)
		}
		scans(t, "none is lost", d, la, good()...)
		place += rec.Sectors(len(r.Images))
	}
}

// TestP1301Older has older records stand behind the last one, of Lsns that came ahead of the head's.
func TestP1301Older(t *testing.T) {
	for place := range 19 {
		d, la := logOf(t, 20, place, record(gone, 20, 1), record(gone, 21, 1), record(gone, 22, 1))
		lays(t, d, 20, place+9, textOf(t, record(gone, 17, 3)))
		scans(t, "older ones", d, la, record(gone, 20, 1), record(gone, 21, 1), record(gone, 22, 1))
		lays(t, d, 20, place+9, textOf(t, record(gone, 23, 1)))
		scans(t, "the next one over them", d, la, record(gone, 20, 1), record(gone, 21, 1), record(gone, 22, 1), record(gone, 23, 1))
	}
}

// TestP1301Over has the last record go over the head's place, where the first one stands: it is none.
func TestP1301Over(t *testing.T) {
	for place := range 13 {
		d, la := logOf(t, 14, place)
		lays(t, d, 14, place+12, textOf(t, record(gone, 5, 1)))
		at := place
		var want []rec.Record
		for lsn := uint64(1); lsn < 5; lsn++ {
			want = append(want, record(gone, lsn, 1))
			at = lays(t, d, 14, at, textOf(t, want[lsn-1]))
		}
		is(t, "one sector is left", at, (place+12)%13)
		scans(t, "it has no room", d, la, want...)
	}
}

// TestP1301Lsn begins with the greatest number: nothing comes behind it.
func TestP1301Lsn(t *testing.T) {
	const top = math.MaxUint64
	d, la := logOf(t, 20, 4, record(gone, top-1, 1), record(gone, top, 1), record(gone, top, 1))
	scans(t, "two", d, la, record(gone, top-1, 1), record(gone, top, 1))
	writes(t, d, start(20), headOf(t, gone, top, 7))
	scans(t, "one", d, la, record(gone, top, 1))
}

// TestP1301NoHead has bytes 0 for a head: no records, whatever stands behind it.
func TestP1301NoHead(t *testing.T) {
	d, la := diskOf(t, 20)
	scans(t, "just formatted", d, la)
	d, la = logOf(t, 20, 0, record(gone, 1, 1), record(gone, 2, 1))
	scans(t, "two", d, la, record(gone, 1, 1), record(gone, 2, 1))
	writes(t, d, start(20), bytes0(64))
	scans(t, "none", d, la)
}

func TestP1301Corrupt(t *testing.T) {
	d, la := logOf(t, 20, 0, record(gone, 1, 1))
	corrupt := func(what, head string) {
		t.Helper()
		writes(t, d, start(20), head)
		scansNone(t, what, d, la, 2, api.ErrCorrupt)
		before := all(t, d)
		for _, of := range []uint64{0, gone, 7} {
			n, e := Run(d, la, 2, of, by, epoch)
			is(t, what+": Run's error", e, api.ErrCorrupt)
			is(t, what+": Run", n, 0)
		}
		is(t, what+": nothing is changed", all(t, d) == before, true)
	}
	good := headOf(t, gone, 1, 0)
	for at := range 64 {
		b := []byte(good)
		b[at] ^= 1
		corrupt("a byte is changed", string(b))
		b = make([]byte, 64)
		b[at] = 1
		corrupt("one byte is not 0", string(b))
	}
	stamped := func(text string) string {
		b, e := sum.Stamp(text, 64)
		is(t, "Stamp", e, api.OK)
		return b
	}
	is(t, "a head by hand", stamped(good[:60]), good)
	zeros := bytes0(8)
	corrupt("nothing, with its sum", stamped(""))
	corrupt("the epoch 0", stamped("HEAD"+zeros+good[12:24]))
	corrupt("the Lsn 0", stamped(good[:12]+zeros+good[20:24]))
	corrupt("a place that is too great", stamped(good[:20]+"\x01\x01\x00\x00"))
	corrupt("another mark", stamped("HEAP"+good[4:24]))
	corrupt("bytes behind it", stamped(good[:24]+"x"))
	corrupt("a record", textOf(t, record(gone, 1, 1))[:64])
	writes(t, d, start(20), good)
	scans(t, "as it was", d, la, record(gone, 1, 1))
}

// TestP1301Place has heads of the last place that is there, and of each one that is not.
func TestP1301Place(t *testing.T) {
	for _, log := range []int{8, 20, 255, 256} {
		d, la := logOf(t, log, log-2, record(gone, 1, 1))
		scans(t, "the last place", d, la, record(gone, 1, 1))
		for at := log - 1; at <= api.MaxLog; at++ {
			writes(t, d, start(log), headOf(t, gone, 1, at))
			scans(t, "no such place", d, la)
			lays(t, d, log, at, textOf(t, record(gone, 1, 1)))
			scans(t, "nor where one stands so far on, round", d, la)
		}
	}
}

func TestP1301Errors(t *testing.T) {
	d, la := logOf(t, 20, 0, record(gone, 1, 1))
	for _, node := range []int{0, -1, 4, 16, math.MaxInt, math.MinInt, 1<<32 + 2} {
		scansNone(t, "no such node", d, la, node, api.ErrIndex)
		scansNone(t, "no disk ahead of the node", nil, la, node, api.ErrArg)
		scansNone(t, "no layout ahead of the node", d, super.Layout{}, node, api.ErrArg)
		scansNone(t, "the node ahead of the power", &sdisk.Disk{}, la, node, api.ErrIndex)
	}
	wrong := la
	wrong.Shape.Log = 257
	scansNone(t, "a log that is too long", d, wrong, 2, api.ErrArg)
	scansNone(t, "no disk", nil, la, 2, api.ErrArg)
	scansNone(t, "a zero disk", &sdisk.Disk{}, la, 2, api.ErrOff)
	for _, n := range []int{1, 21, 22, 40} {
		scansNone(t, "a disk that has not all of its sectors", sdisk.New(n), la, 2, api.ErrRange)
	}
	is(t, "none in the last sectors", len(found(t, sdisk.New(41), la, 2)), 0)
	d.Cut()
	scansNone(t, "without power", d, la, 2, api.ErrOff)
	scansNone(t, "the node ahead of the power", d, la, 4, api.ErrIndex)
	d.Restore()
	scans(t, "with power", d, la, record(gone, 1, 1))
}

// found tells the records of a log that can be read.
func found(t *testing.T, d *sdisk.Disk, l super.Layout, node int) []rec.Record {
	t.Helper()
	r, e := Scan(d, l, node)
	is(t, "Scan's error", e, api.OK)
	return r
}

// TestP1301EachNode reads the log of each node, whoever is admitted.
func TestP1301EachNode(t *testing.T) {
	d, la := diskOf(t, 20)
	for node := 1; node <= 3; node++ {
		g, e := wlog.Open(d, la, node, uint64(100+node))
		is(t, "Open", e, api.OK)
		_, e = g.Add(image(node, uint64(node)))
		is(t, "Add", e, api.OK)
		is(t, "Sync", g.Sync(), api.OK)
		is(t, "Fence", d.Fence(node), api.OK)
	}
	for node := 1; node <= 3; node++ {
		l := found(t, d, la, node)
		is(t, "one", len(l), 1)
		is(t, "whose it is", l[0].Epoch, uint64(100+node))
		is(t, "what it has", l[0].Images[0], image(node, uint64(node)))
	}
}

// TestP1301Asks asks twice: the disk is as it was, and one answer has nothing of the other one.
func TestP1301Asks(t *testing.T) {
	d, la := logOf(t, 20, 17, record(gone, 1, 2), record(gone, 2, 2))
	before := all(t, d)
	d.Arm(0)
	a := found(t, d, la, 2)
	clear(a[0].Images)
	is(t, "the images of one alone", slices.Equal(a[1].Images, images(2, 3)), true)
	scans(t, "again", d, la, record(gone, 1, 2), record(gone, 2, 2))
	is(t, "the power is there", d.On(), true)
	is(t, "nothing is changed", all(t, d) == before, true)
	is(t, "nothing waits", d.Waiting(2)+d.Waiting(by), 0)
}

// plans holds what Plan tells of records that have these images.
func plans(t *testing.T, what string, want []api.Image, l ...[]api.Image) {
	t.Helper()
	var r []rec.Record
	for k, images := range l {
		r = append(r, rec.Record{Epoch: gone, Lsn: uint64(k + 1), Images: images})
	}
	if got := Plan(r...); !slices.Equal(got, want) {
		t.Errorf("%s: %v, not %v", what, got, want)
	}
}

func TestP1302Plan(t *testing.T) {
	i := image
	type l = []api.Image
	plans(t, "none", nil)
	plans(t, "records of no images", nil, nil, l{}, nil)
	plans(t, "one", l{i(3, 2)}, l{i(3, 2)})
	plans(t, "by block", l{i(0, 1), i(2, 1), i(9, 1), i(10, 1), i(100, 1)}, l{i(9, 1), i(100, 1)}, l{i(2, 1), i(10, 1)}, l{i(0, 1)})
	plans(t, "the greatest version last", l{i(1, 9), i(2, 5)}, l{i(1, 3), i(2, 5)}, l{i(1, 4)}, l{i(1, 9)})
	plans(t, "the greatest version first", l{i(1, 9), i(2, 5)}, l{i(1, 9)}, l{i(1, 4), i(2, 5)}, l{i(1, 3), i(2, 2)})
	plans(t, "the greatest version in the midst", l{i(1, 9)}, l{i(1, 4)}, l{i(1, 9)}, l{i(1, 8)})
	plans(t, "the version 0", l{i(1, 0), i(2, 0)}, l{i(2, 0)}, l{i(1, 0)})
	plans(t, "great versions", l{i(1, math.MaxUint64), i(2, 1<<63)}, l{i(1, math.MaxUint64), i(2, 1<<63-1)}, l{i(1, 1), i(2, 1<<63)})
	plans(t, "whatever numbers", l{i(math.MinInt, 1), i(-1, 1), i(0, 1), i(math.MaxInt, 1)}, l{i(math.MaxInt, 1), i(0, 1), i(-1, 1), i(math.MinInt, 1)})
	plans(t, "one that has nothing", l{{}, i(1, 1)}, l{i(1, 1), {}})
}

// TestP1302PlanLast has several of the greatest version: the last one counts.
func TestP1302PlanLast(t *testing.T) {
	of := func(block int, version uint64, data string) api.Image {
		return api.Image{Block: block, Version: version, Data: data}
	}
	type l = []api.Image
	plans(t, "of several records", l{of(1, 5, "c"), of(2, 5, "x")}, l{of(1, 5, "a"), of(2, 5, "x")}, l{of(1, 5, "b")}, l{of(1, 5, "c"), of(2, 4, "y")}, l{of(1, 4, "d")})
	plans(t, "of one record", l{of(1, 5, "b")}, l{of(1, 5, "a"), of(1, 5, "b"), of(1, 4, "c")})
	plans(t, "the version 0", l{of(1, 0, "b")}, l{of(1, 0, "a")}, l{of(1, 0, "b")})
	plans(t, "no bytes", l{of(1, 5, "")}, l{of(1, 5, "a"), of(1, 5, "")})
}

// TestP1302PlanMany holds Plan of many records against a search of its own.
func TestP1302PlanMany(t *testing.T) {
	for seed := range 100 {
		x := &dice{at: uint64(seed)}
		var l []rec.Record
		for range x.throw(20) {
			var r rec.Record
			for range x.throw(6) {
				data := string([]byte{byte(x.throw(200))})
				r.Images = append(r.Images, api.Image{Block: x.throw(12), Version: uint64(x.throw(5)), Data: data})
			}
			l = append(l, r)
		}
		var want []api.Image
		for b := range 12 {
			var best []api.Image
			for _, r := range l {
				for _, i := range r.Images {
					if i.Block == b && (len(best) == 0 || i.Version >= best[0].Version) {
						best = []api.Image{i}
					}
				}
			}
			want = append(want, best...)
		}
		is(t, "Plan", slices.Equal(Plan(l...), want), true)
	}
}

// TestP1302PlanNew changes an answer, and what was handed in.
func TestP1302PlanNew(t *testing.T) {
	l := []rec.Record{record(gone, 1, 3), record(gone, 2, 2)}
	a := Plan(l...)
	is(t, "what is handed in is as it was", sameRecords(l, []rec.Record{record(gone, 1, 3), record(gone, 2, 2)}), true)
	b := Plan(l...)
	clear(a)
	want := []api.Image{image(0, 3), image(1, 3), image(2, 2)}
	is(t, "another answer", slices.Equal(b, want), true)
	is(t, "what was handed in", sameRecords(l, []rec.Record{record(gone, 1, 3), record(gone, 2, 2)}), true)
	clear(l[0].Images)
	clear(l)
	is(t, "the answer is kept by itself", slices.Equal(b, want), true)
}

func TestP1302Apply(t *testing.T) {
	d, la := diskOf(t, 20)
	before := all(t, d)
	applies(t, "none", d, la, 0)
	is(t, "nothing is changed", all(t, d) == before, true)
	applies(t, "never written ones", d, la, 3, image(5, 1), image(2, 7), image(blocks-1, math.MaxUint64))
	is(t, "one", loads(t, d, la, 5), image(5, 1))
	is(t, "two", loads(t, d, la, 2), image(2, 7))
	is(t, "three", loads(t, d, la, blocks-1), image(blocks-1, math.MaxUint64))
	is(t, "another one", loads(t, d, la, 3), api.Image{Block: 3, Data: bytes0(96)})
	is(t, "they last", lasting(t, d) == all(t, d), true)
	is(t, "nothing waits", d.Waiting(by), 0)
}

// TestP1302Versions applies images of versions below, at and above the one that is there.
func TestP1302Versions(t *testing.T) {
	list := []uint64{0, 1, 2, 255, 256, 1<<32 - 1, 1 << 32, 1 << 63, math.MaxUint64}
	for _, there := range list {
		for _, v := range list {
			d, la := diskOf(t, 20)
			was := api.Image{Block: 4, Version: there, Data: strings.Repeat("w", 96)}
			stores(t, d, la, 1, was)
			want, left := 0, was
			if v > there {
				want, left = 1, image(4, v)
			}
			applies(t, "Apply", d, la, want, image(4, v))
			is(t, "what is there", loads(t, d, la, 4), left)
		}
	}
	d, la := diskOf(t, 20)
	applies(t, "the version 0 of one that was never written", d, la, 0, image(4, 0))
	is(t, "what is there", loads(t, d, la, 4), api.Image{Block: 4, Data: bytes0(96)})
}

// TestP1302Torn has blocks that are torn: any image is Stored there, whatever its version is.
func TestP1302Torn(t *testing.T) {
	sectors := func(i api.Image) string {
		b, e := block.Put(i)
		is(t, "block.Put", e, api.OK)
		return b
	}
	a, b := sectors(image(4, 9)), sectors(image(4, 10))
	other := sectors(image(5, 9))
	for what, there := range map[string]string{
		"the first sector is newer":            b[:64] + a[64:],
		"the last sector is newer":             a[:64] + b[64:],
		"the first sector alone was written":   a[:64] + bytes0(64),
		"the last sector alone was written":    bytes0(64) + a[64:],
		"no sectors of a block":                strings.Repeat("?", 128),
		"a byte of the first sector":           "x" + a[1:],
		"a byte of the last sector":            a[:127] + "x",
		"another block's":                      other,
		"another block's first sector":         other[:64] + a[64:],
		"another block's last sector":          a[:64] + other[64:],
		"the sectors of a block the other way": a[64:] + b[:64],
	} {
		for _, v := range []uint64{0, 1, 8, 9, 10, 11, math.MaxUint64} {
			d, la := diskOf(t, 20)
			writes(t, d, blockAt(t, la, 4), there)
			_, e := block.Load(d, la, 4)
			is(t, what+": it is torn", e == api.ErrSum || e == api.ErrForm, true)
			applies(t, what, d, la, 1, image(4, v))
			is(t, what+": what is there", loads(t, d, la, 4), image(4, v))
			is(t, what+": it lasts", lasting(t, d) == all(t, d), true)
			applies(t, what+": again", d, la, 0, image(4, v))
		}
	}
}

// TestP1302Order applies several images of one block: each one is held against what the one ahead of it left.
func TestP1302Order(t *testing.T) {
	d, la := diskOf(t, 20)
	applies(t, "rising", d, la, 3, image(4, 1), image(4, 2), image(4, 5))
	is(t, "the last one", loads(t, d, la, 4), image(4, 5))
	applies(t, "falling", d, la, 1, image(4, 9), image(4, 8), image(4, 6))
	is(t, "the first one", loads(t, d, la, 4), image(4, 9))
	x := image(4, 10)
	x.Data = strings.Repeat("x", 96)
	applies(t, "one version twice", d, la, 1, x, image(4, 10))
	is(t, "the first one of them", loads(t, d, la, 4), x)
	applies(t, "blocks that fall", d, la, 2, image(9, 1), image(4, 1), image(8, 1))
}

// TestP1302Asks has Apply do no call of the disk but the Writes, and one Barrier if there was a Write.
func TestP1302Asks(t *testing.T) {
	d, la := diskOf(t, 20)
	stores(t, d, la, 1, image(0, 5), image(1, 5))
	for n, l := range map[int][]api.Image{
		0: {image(0, 5), image(1, 4)},
		2: {image(0, 6)},
		3: {image(0, 6), image(1, 5), image(2, 1)},
		5: {image(3, 1), image(0, 6), image(1, 6), image(2, 1)},
	} {
		is(t, "calls", callsOf(d, func(x *sdisk.Disk) { Apply(x, la, by, epoch, l...) }), n)
	}
	is(t, "calls of none", callsOf(d, func(x *sdisk.Disk) { Apply(x, la, by, epoch) }), 0)
	for _, e := range []uint64{0, 1, 101, 104} {
		n, err := Apply(d, la, by, e, image(0, 5), image(1, 1))
		is(t, "nothing to store, by an epoch that is not admitted", err, api.OK)
		is(t, "how many", n, 0)
	}
	is(t, "what others wrote waits still", d.Waiting(1), 4)
	stores(t, d, la, by, image(3, 1))
	applies(t, "nothing to store", d, la, 0, image(3, 1))
	is(t, "no Barrier", d.Waiting(by), 2)
	applies(t, "one to store", d, la, 1, image(3, 2))
	is(t, "a Barrier of by", d.Waiting(by), 0)
	is(t, "and of no other one", d.Waiting(1), 4)
}

func TestP1302Errors(t *testing.T) {
	short, long := image(1, 1), image(1, 1)
	short.Data = short.Data[1:]
	long.Data += "x"
	d, la := diskOf(t, 20)
	before := all(t, d)
	for _, b := range []int{-1, blocks, blocks + 1, api.MaxBlocks - 1, api.MaxBlocks, math.MaxInt, math.MinInt, 1<<32 + 1} {
		appliesNone(t, "no such block", d, la, by, epoch, api.ErrRange, image(b, 1))
		appliesNone(t, "no such block, ahead of the epoch", d, la, by, 1, api.ErrRange, image(b, 1))
	}
	appliesNone(t, "too few bytes", d, la, by, epoch, api.ErrArg, short)
	appliesNone(t, "too many bytes", d, la, by, epoch, api.ErrArg, long)
	appliesNone(t, "no bytes", d, la, by, epoch, api.ErrArg, api.Image{Block: 6, Version: 1})
	appliesNone(t, "no layout", d, super.Layout{}, by, epoch, api.ErrArg, image(1, 1))
	for _, node := range []int{-1, api.MaxNodes + 1, math.MaxInt, math.MinInt} {
		appliesNone(t, "no such node", d, la, node, epoch, api.ErrArg, image(1, 1))
	}
	for _, e := range []uint64{0, 1, 102, 104, math.MaxUint64} {
		appliesNone(t, "another epoch", d, la, by, e, api.ErrFenced, image(1, 1))
	}
	appliesNone(t, "another node", d, la, 1, epoch, api.ErrFenced, image(1, 1))
	appliesNone(t, "no disk", nil, la, by, epoch, api.ErrOff, image(1, 1))
	appliesNone(t, "a zero disk", &sdisk.Disk{}, la, by, epoch, api.ErrOff, image(1, 1))
	appliesNone(t, "a disk that has no such sectors", sdisk.New(61), la, by, epoch, api.ErrRange, image(1, 1))
	is(t, "nothing is changed", all(t, d) == before, true)
	is(t, "nothing waits", d.Waiting(by), 0)
	d.Cut()
	appliesNone(t, "without power", d, la, by, epoch, api.ErrOff, image(1, 1))
	applies(t, "nothing to look at", d, la, 0)
	applies(t, "nothing to look at, no disk", nil, la, 0)
}

// TestP1302NotNewer has images that may not be, of versions that are not newer: they are not looked at.
func TestP1302NotNewer(t *testing.T) {
	d, la := diskOf(t, 20)
	stores(t, d, la, 1, image(1, 5))
	applies(t, "no bytes", d, la, 0, api.Image{Block: 1, Version: 5}, api.Image{Block: 1, Version: 2, Data: "x"})
	is(t, "what is there", loads(t, d, la, 1), image(1, 5))
	applies(t, "nor of one that was never written", d, la, 0, api.Image{Block: 2})
}

// TestP1302AtOnce has an error in the midst: what is ahead of it was written, and waits; nothing behind it was.
func TestP1302AtOnce(t *testing.T) {
	for want, bad := range map[api.Errno]api.Image{
		api.ErrRange: image(blocks, 1),
		api.ErrArg:   {Block: 3, Version: 1, Data: "short"},
	} {
		d, la := diskOf(t, 20)
		appliesNone(t, "one of three", d, la, by, epoch, want, image(2, 1), bad, image(4, 1))
		is(t, "the first one", loads(t, d, la, 2), image(2, 1))
		is(t, "it waits", d.Waiting(by), 2)
		is(t, "the last one", loads(t, d, la, 4), api.Image{Block: 4, Data: bytes0(96)})
	}
}

// TestP1302PowerGoes has the power go at each call of the disk.
func TestP1302PowerGoes(t *testing.T) {
	l := []api.Image{image(2, 1), image(3, 1)}
	for n := range 3 {
		for _, keep := range []int{0, 1} {
			d, la := diskOf(t, 20)
			d.Arm(n, keep, keep, keep, keep)
			appliesNone(t, "the power goes", d, la, by, epoch, api.ErrOff, l...)
			d.Restore()
			for k, i := range l {
				want := api.Image{Block: i.Block, Data: bytes0(96)}
				if k < n*keep {
					want = i
				}
				is(t, "what is there", loads(t, d, la, i.Block), want)
			}
		}
	}
}

// toRun makes a log of node 2 of three records, of which one block is to be stored of a never written one,
// one of an older one, and one of a torn one; one is there already, one is newer. Node 2 is fenced.
func toRun(t *testing.T) (*sdisk.Disk, super.Layout) {
	t.Helper()
	d, la := logOf(t, 20, 13,
		rec.Record{Epoch: gone, Lsn: 5, Images: []api.Image{image(1, 3), image(2, 8)}},
		rec.Record{Epoch: gone, Lsn: 6, Images: []api.Image{image(1, 4), image(3, 1)}},
		rec.Record{Epoch: gone, Lsn: 7, Images: []api.Image{image(4, 6), image(5, 2)}},
	)
	stores(t, d, la, 2, image(1, 2), image(3, 1), image(5, 9))
	writes(t, d, blockAt(t, la, 4), strings.Repeat("?", 128))
	is(t, "Fence", d.Fence(2), api.OK)
	return d, la
}

// ran holds that all blocks of toRun's log are as they were committed last.
func ran(t *testing.T, d *sdisk.Disk, la super.Layout) {
	t.Helper()
	for _, i := range []api.Image{image(1, 4), image(2, 8), image(3, 1), image(4, 6), image(5, 9)} {
		is(t, "what is there", loads(t, d, la, i.Block), i)
	}
}

func TestP1303Run(t *testing.T) {
	d, la := toRun(t)
	was := all(t, d)
	runs(t, "Run", d, la, 3)
	ran(t, d, la)
	got := all(t, d)
	from, to := start(20)*64, blockAt(t, la, 0)*64
	is(t, "what is ahead of the log", got[:from] == was[:from], true)
	is(t, "the head", got[from:from+64], bytes0(64))
	is(t, "all behind it, up to the blocks", got[from+64:to] == was[from+64:to], true)
	is(t, "the other blocks", got[to+12*64:] == was[to+12*64:], true)
	is(t, "all lasts", lasting(t, d) == got, true)
	scans(t, "an empty log", d, la)
	d.Arm(0)
	runs(t, "Run of none", d, la, 0)
	is(t, "nothing is done", d.On(), true)
	is(t, "nothing is changed", all(t, d) == got, true)
}

// TestP1303Calls counts the calls of the disk: the stores and their Barrier, the head and its Barrier.
func TestP1303Calls(t *testing.T) {
	d, la := toRun(t)
	do := func(x *sdisk.Disk) { Run(x, la, 2, gone, by, epoch) }
	is(t, "three to store", callsOf(d, do), 6)
	stores(t, d, la, by, image(1, 4), image(2, 8), image(4, 6))
	is(t, "none to store", callsOf(d, do), 2)
	d, la = logOf(t, 20, 0)
	is(t, "no records", callsOf(d, do), 2)
	d, la = diskOf(t, 20)
	is(t, "no head", callsOf(d, do), 0)
}

// TestP1303Nothing has no head, or one of another epoch: nothing is done, whoever asks.
func TestP1303Nothing(t *testing.T) {
	nothing := func(what string, d *sdisk.Disk, la super.Layout, of uint64) {
		t.Helper()
		before := all(t, d)
		d.Arm(0)
		for _, who := range []int{by, 1, -1, 99} {
			for _, e := range []uint64{epoch, 0, 9} {
				n, err := Run(d, la, 2, of, who, e)
				is(t, what+": the error", err, api.OK)
				is(t, what+": how many", n, 0)
			}
		}
		is(t, what+": nothing is done", d.On(), true)
		is(t, what+": nothing is changed", all(t, d) == before, true)
		d.Arm(-1)
	}
	d, la := toRun(t)
	for _, of := range []uint64{0, 1, gone - 1, gone + 1, gone + 1<<32, math.MaxUint64} {
		nothing("another epoch", d, la, of)
	}
	runs(t, "the epoch", d, la, 3)
	for _, of := range []uint64{0, 1, gone, math.MaxUint64} {
		nothing("a log that is empty", d, la, of)
	}
	d, la = logOf(t, 20, 0, record(gone, 1, 1))
	writes(t, d, start(20), bytes0(64))
	for _, of := range []uint64{0, gone} {
		nothing("records behind a head that is none", d, la, of)
	}
}

// TestP1303NoRecords has a head of the epoch, but no records: the log is emptied.
func TestP1303NoRecords(t *testing.T) {
	for _, at := range []int{0, 18, 19, 20, 256} {
		d, la := diskOf(t, 20)
		lays(t, d, 20, 0, textOf(t, record(gone, 3, 1)))
		before := all(t, d)
		writes(t, d, start(20), headOf(t, gone, 1, at))
		runs(t, "no records", d, la, 0)
		is(t, "the head is none, and nothing else is changed", all(t, d) == before, true)
		is(t, "it lasts", lasting(t, d) == before, true)
	}
}

func TestP1303Errors(t *testing.T) {
	d, la := toRun(t)
	before := all(t, d)
	fails := func(what string, d *sdisk.Disk, l super.Layout, node, by int, epoch uint64, want api.Errno) {
		t.Helper()
		n, e := Run(d, l, node, gone, by, epoch)
		is(t, what+": the error", e, want)
		is(t, what+": no number", n, 0)
	}
	for _, node := range []int{0, -1, 4, 16, math.MaxInt, math.MinInt, 1<<32 + 2} {
		fails("no such node", d, la, node, by, epoch, api.ErrIndex)
		fails("no disk ahead of the node", nil, la, node, by, epoch, api.ErrArg)
		fails("no layout ahead of the node", d, super.Layout{}, node, by, epoch, api.ErrArg)
		fails("the node ahead of the power", &sdisk.Disk{}, la, node, by, epoch, api.ErrIndex)
	}
	fails("no disk", nil, la, 2, by, epoch, api.ErrArg)
	fails("a zero disk", &sdisk.Disk{}, la, 2, by, epoch, api.ErrOff)
	fails("a disk that has no such sectors", sdisk.New(40), la, 2, by, epoch, api.ErrRange)
	for _, e := range []uint64{0, 1, gone, 104} {
		fails("an epoch that is not admitted", d, la, 2, by, e, api.ErrFenced)
	}
	fails("no such node that does it", d, la, 2, api.MaxNodes+1, epoch, api.ErrArg)
	is(t, "nothing is changed", all(t, d) == before, true)
	d.Cut()
	fails("without power", d, la, 2, by, epoch, api.ErrOff)
	d.Restore()
	is(t, "nothing is changed", all(t, d) == before, true)
	runs(t, "Run", d, la, 3)
}

// TestP1303NotEmptied has an error in the stores: the log is not emptied, and nothing is done behind it.
func TestP1303NotEmptied(t *testing.T) {
	d, la := logOf(t, 20, 0, rec.Record{Epoch: gone, Lsn: 1, Images: []api.Image{image(2, 1), image(blocks, 1)}})
	head := read(t, d, start(20), 1)
	for range 2 {
		n, e := Run(d, la, 2, gone, by, epoch)
		is(t, "a block that is not there: the error", e, api.ErrRange)
		is(t, "no number", n, 0)
		is(t, "the head", read(t, d, start(20), 1) == head, true)
		is(t, "what is ahead of it", loads(t, d, la, 2), image(2, 1))
	}
	is(t, "no Barrier", d.Waiting(by), 2)
}

// TestP1303Fenced has nothing to store: the head's Write tells the error.
func TestP1303Fenced(t *testing.T) {
	d, la := toRun(t)
	stores(t, d, la, by, image(1, 4), image(2, 8), image(4, 6))
	head := read(t, d, start(20), 1)
	for _, e := range []uint64{0, 1, 104} {
		n, err := Run(d, la, 2, gone, by, e)
		is(t, "the error", err, api.ErrFenced)
		is(t, "no number", n, 0)
	}
	is(t, "the head", read(t, d, start(20), 1) == head, true)
}

// TestP1303Who has each node do it, the server and the node itself, by a later epoch, too.
func TestP1303Who(t *testing.T) {
	for _, who := range []int{0, 1, 2, 3, api.MaxNodes} {
		d, la := toRun(t)
		is(t, "Admit", d.Admit(who, 500), api.OK)
		n, e := Run(d, la, 2, gone, who, 500)
		is(t, "the error", e, api.OK)
		is(t, "how many", n, 3)
		ran(t, d, la)
		scans(t, "an empty log", d, la)
		is(t, "nothing waits", d.Waiting(who), 0)
	}
}

// TestP1303PowerGoes has the power go at each call, with each choice of up to six sectors that stay: the
// head is there as long as not all blocks last; and Run again makes all whole.
func TestP1303PowerGoes(t *testing.T) {
	for n := range 6 {
		for bits := range 64 {
			d, la := toRun(t)
			d.Arm(n, bits, bits>>1, bits>>2, bits>>3, bits>>4, bits>>5)
			k, e := Run(d, la, 2, gone, by, epoch)
			is(t, "the error", e, api.ErrOff)
			is(t, "no number", k, 0)
			d.Restore()
			if read(t, d, start(20), 1) == bytes0(64) {
				is(t, "the head goes last", n, 5)
				ran(t, d, la)
			}
			_, e = Run(d, la, 2, gone, by, epoch)
			is(t, "again: the error", e, api.OK)
			ran(t, d, la)
			is(t, "all lasts", lasting(t, d) == all(t, d), true)
			runs(t, "once more", d, la, 0)
		}
	}
}

// life is what node 2 does up to its end: transactions of some blocks, of which some are written back.
type life struct {
	d     *sdisk.Disk
	la    super.Layout
	g     *wlog.Log
	now   map[int]api.Image // what was committed last
	lsns  map[int]uint64    // by which transaction
	least map[int]uint64    // the version that was synced
}

func lifeOf(t *testing.T, log int) *life {
	t.Helper()
	d, la := diskOf(t, log)
	g, e := wlog.Open(d, la, 2, gone)
	is(t, "Open", e, api.OK)
	return &life{d: d, la: la, g: g, now: map[int]api.Image{}, lsns: map[int]uint64{}, least: map[int]uint64{}}
}

// step does one thing, as a node does it: a block is stored behind its record's Sync, and a record is
// freed when all its blocks last.
func (f *life) step(t *testing.T, x *dice) {
	t.Helper()
	switch x.throw(8) {
	case 0, 1, 2, 3:
		f.commit(t, x)
	case 4:
		f.g.Write()
	case 5:
		f.sync()
	case 6:
		f.back(x)
	case 7:
		f.free(x)
	}
}

func (f *life) commit(t *testing.T, x *dice) {
	t.Helper()
	var l []api.Image
	for b := range 6 {
		if x.throw(3) == 0 {
			l = append(l, image(b, f.now[b].Version+1))
		}
	}
	if !f.g.Fits(len(l)) {
		return
	}
	lsn, e := f.g.Add(l...)
	is(t, "Add", e, api.OK)
	for _, i := range l {
		f.now[i.Block], f.lsns[i.Block] = i, lsn
	}
}

func (f *life) sync() bool {
	if f.g.Sync() != api.OK {
		return false
	}
	for b, i := range f.now {
		f.least[b] = i.Version
	}
	return true
}

func (f *life) back(x *dice) {
	for b := range 6 {
		if i, is := f.now[b]; is && f.lsns[b] <= f.g.Synced() && x.throw(2) == 0 {
			block.Store(f.d, f.la, 2, gone, i)
		}
	}
}

func (f *life) free(x *dice) {
	if !f.sync() {
		return
	}
	for b := range 6 {
		if i, is := f.now[b]; is {
			block.Store(f.d, f.la, 2, gone, i)
		}
	}
	if f.d.Barrier(2, gone) == api.OK && x.throw(4) > 0 {
		f.g.Free(f.g.Next())
	}
}

// whole holds that each block is as some transaction committed it, at least the last one that was synced,
// or that a record has.
func (f *life) whole(t *testing.T, d *sdisk.Disk, plan []api.Image) {
	t.Helper()
	least := f.least
	for _, i := range plan {
		least[i.Block] = max(least[i.Block], i.Version)
	}
	for b := range 6 {
		got := loads(t, d, f.la, b)
		want := image(b, got.Version)
		if got.Version == 0 {
			want.Data = bytes0(96)
		}
		is(t, "what is there", got, want)
		if got.Version < least[b] || got.Version > f.now[b].Version {
			t.Errorf("block %d: version %d, not from %d to %d", b, got.Version, least[b], f.now[b].Version)
		}
	}
}

// TestP1304 has a node do many things, till the power goes in the midst of them; then its log is done
// again, while the power goes in that, too, again and again.
func TestP1304(t *testing.T) {
	for seed := range 500 {
		x := &dice{at: uint64(seed)}
		f := lifeOf(t, []int{14, 20, 33}[seed%3])
		f.d.Arm(x.throw(60), x.keep()...)
		for range 100 {
			f.step(t, x)
		}
		f.d.Cut(x.keep()...)
		f.d.Restore()
		is(t, "Fence", f.d.Fence(2), api.OK)
		plan := Plan(found(t, f.d, f.la, 2)...)

		once := f.d.Twin()
		_, e := Run(once, f.la, 2, gone, by, epoch)
		is(t, "once: the error", e, api.OK)
		f.whole(t, once, plan)
		is(t, "once: all lasts", lasting(t, once) == all(t, once), true)
		is(t, "once: an empty log", len(found(t, once, f.la, 2)), 0)

		for range x.throw(5) {
			f.d.Arm(x.throw(len(plan)+4), x.keep()...)
			Run(f.d, f.la, 2, gone, by, epoch)
			f.d.Cut(x.keep()...)
			f.d.Restore()
		}
		_, e = Run(f.d, f.la, 2, gone, by, epoch)
		is(t, "in the end: the error", e, api.OK)
		f.whole(t, f.d, plan)
		is(t, "twice is as once", all(t, f.d) == all(t, once), true)
		runs(t, "behind that", f.d, f.la, 0)
		is(t, "behind that", all(t, f.d) == all(t, once), true)
		is(t, "all lasts", lasting(t, f.d) == all(t, once), true)
		if t.Failed() {
			t.Fatal("seed", seed)
		}
	}
}
