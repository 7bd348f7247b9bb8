package block

import (
	"hash/crc32"
	"math"
	"strings"
	"testing"

	"commons/api"
	"commons/sdisk"
	"commons/super"
)

// is holds one answer against what is wanted.
func is[T comparable](t *testing.T, what string, got, want T) {
	t.Helper()
	if got != want {
		t.Errorf("%s: %#v, not %#v", what, got, want) // many bytes are no text
	}
}

// laid lays a sector by hand: its bytes, its two numbers, the sum of all these.
func laid(data string, block uint32, version uint64) string {
	b := []byte(data)
	for k := range 4 {
		b = append(b, byte(block>>(8*k)))
	}
	for k := range 8 {
		b = append(b, byte(version>>(8*k)))
	}
	return summed(string(b))
}

// summed has the sum of a text behind it.
func summed(text string) string {
	x := crc32.ChecksumIEEE([]byte(text))
	return text + string([]byte{byte(x), byte(x >> 8), byte(x >> 16), byte(x >> 24)})
}

// both lays the two sectors of an image by hand.
func both(i api.Image) string {
	return laid(i.Data[:48], uint32(i.Block), i.Version) + laid(i.Data[48:], uint32(i.Block), i.Version)
}

// rows has n bytes, each other than the ones beside it; k says from which on.
func rows(n, k int) string {
	b := make([]byte, n)
	for at := range b {
		b[at] = byte(k + 7*at)
	}
	return string(b)
}

func bytes0(n int) string { return strings.Repeat("\x00", n) }

func image(block int, version uint64) api.Image {
	return api.Image{Block: block, Version: version, Data: rows(96, block+int(version))}
}

func datas() []string {
	return []string{
		bytes0(96), strings.Repeat("\xff", 96), strings.Repeat("a", 96), rows(96, 0), rows(96, 200),
		"first" + bytes0(91), bytes0(48) + rows(48, 1), rows(48, 1) + bytes0(48), bytes0(95) + "x",
	}
}

func blocks() []int { return []int{0, 1, 2, 7, 255, 256, 257, 4094, 4095} }

// noBlocks tells numbers that no block has, also such as one has when they are cut to fewer bits.
func noBlocks() []int {
	return []int{-1, -2, -4095, -4096, 4096, 4097, 8192, 1 << 16, math.MaxUint32, 1 << 32, 1<<32 + 7, 7 - 1<<32, math.MaxInt, math.MinInt, math.MinInt + 7}
}

func versions() []uint64 {
	return []uint64{0, 1, 2, 255, 256, 0x0102030405060708, 1<<32 - 1, 1 << 32, 1 << 63, math.MaxUint64 - 1, math.MaxUint64}
}

// goods tells images of all edges.
func goods() []api.Image {
	var l []api.Image
	for _, b := range blocks() {
		for _, v := range versions() {
			for _, d := range datas() {
				l = append(l, api.Image{Block: b, Version: v, Data: d})
			}
		}
	}
	return l
}

// gets holds what Get tells of bytes that are an image.
func gets(t *testing.T, what string, block int, b string, want api.Image) {
	t.Helper()
	i, e := Get(block, b)
	is(t, what+": the error", e, api.OK)
	is(t, what, i, want)
}

// fails holds that Get tells an error, and no image.
func fails(t *testing.T, what string, block int, b string, want api.Errno) {
	t.Helper()
	i, e := Get(block, b)
	is(t, what+": the error", e, want)
	is(t, what, i, api.Image{})
}

func TestP1001Pad(t *testing.T) {
	for n := range 97 {
		for _, s := range []string{rows(n, 0), strings.Repeat("a", n), bytes0(n), strings.Repeat("\xff", n)} {
			b, e := Pad(s)
			is(t, "Pad's error", e, api.OK)
			is(t, "Pad", b, s+bytes0(96-n))
		}
	}
	for _, n := range []int{97, 98, 128, 192, 256 + 96, 1 << 16, 1<<16 + 1} {
		for _, s := range []string{rows(n, 0), bytes0(n), "a" + bytes0(n-1)} {
			b, e := Pad(s)
			is(t, "Pad of too many: the error", e, api.ErrLong)
			is(t, "Pad of too many", b, "")
		}
	}
}

func TestP1001PutByHand(t *testing.T) {
	a, z := strings.Repeat("a", 48), strings.Repeat("z", 48)
	b, e := Put(api.Image{Block: 0x0102, Version: 0x0102030405060708, Data: a + z})
	is(t, "Put's error", e, api.OK)
	owner := "\x02\x01\x00\x00" + "\x08\x07\x06\x05\x04\x03\x02\x01"
	is(t, "how many bytes", len(b), 128)
	is(t, "the first ones", b[:60], a+owner)
	is(t, "the last ones", b[64:124], z+owner)
	is(t, "all", b, summed(a+owner)+summed(z+owner))
}

func TestP1001Put(t *testing.T) {
	for _, i := range goods() {
		b, e := Put(i)
		is(t, "Put's error", e, api.OK)
		is(t, "Put", b, both(i))
	}
}

func TestP1001PutErrors(t *testing.T) {
	puts := func(what string, i api.Image) {
		t.Helper()
		b, e := Put(i)
		is(t, what+": the error", e, api.ErrArg)
		is(t, what, b, "")
	}
	for _, b := range noBlocks() {
		puts("a block that is none", api.Image{Block: b, Version: 1, Data: rows(96, 0)})
		puts("a block that is none, and no bytes", api.Image{Block: b, Version: 1})
	}
	for _, n := range []int{0, 1, 47, 48, 49, 94, 95, 97, 98, 128, 192, 1 << 16} {
		for _, b := range blocks() {
			puts("too few bytes, or too many", api.Image{Block: b, Version: 1, Data: rows(n, 0)})
			puts("so many bytes 0", api.Image{Block: b, Data: bytes0(n)})
		}
	}
	puts("a zero image", api.Image{})
}

func TestP1001Get(t *testing.T) {
	for _, i := range goods() {
		gets(t, "Get", i.Block, both(i), i)
	}
}

func TestP1001GetNeverWritten(t *testing.T) {
	for _, b := range append(blocks(), noBlocks()...) {
		gets(t, "bytes 0", b, bytes0(128), api.Image{Block: b, Data: bytes0(96)})
	}
	// Version 0 and bytes 0 that were put are not bytes 0.
	i := api.Image{Block: 0, Data: bytes0(96)}
	is(t, "what is put has a sum", both(i) == bytes0(128), false)
	gets(t, "version 0 that was put", 0, both(i), i)
	fails(t, "and of another block", 1, both(i), api.ErrForm)
}

func TestP1001GetShort(t *testing.T) {
	good := both(image(7, 3))
	long := good + good + good
	for n := range len(long) {
		if n == 128 {
			continue
		}
		fails(t, "other than 128 bytes", 7, long[:n], api.ErrShort)
		fails(t, "other than 128 bytes, of a block that is none", -1, long[:n], api.ErrShort)
		fails(t, "so many bytes 0", 7, bytes0(n), api.ErrShort)
	}
	fails(t, "a byte 0 behind", 7, good+"\x00", api.ErrShort)
	fails(t, "a byte 0 ahead", 7, "\x00"+good, api.ErrShort)
	fails(t, "one sector", 7, good[:64], api.ErrShort)
}

func TestP1001GetSum(t *testing.T) {
	for _, i := range []api.Image{image(7, 3), image(0, 0), {Data: bytes0(96)}, image(4095, math.MaxUint64)} {
		for at := range 128 {
			for bit := range 8 {
				b := []byte(both(i))
				b[at] ^= 1 << bit
				fails(t, "a bit is changed", i.Block, string(b), api.ErrSum)
			}
		}
	}
	for at := range 128 {
		for bit := range 8 {
			b := make([]byte, 128)
			b[at] = 1 << bit
			fails(t, "a bit of bytes 0", 0, string(b), api.ErrSum)
		}
	}
	good := both(image(7, 3))
	fails(t, "bytes 255", 7, strings.Repeat("\xff", 128), api.ErrSum)
	fails(t, "the first one was never written", 7, bytes0(64)+good[64:], api.ErrSum)
	fails(t, "the last one was never written", 7, good[:64]+bytes0(64), api.ErrSum)
}

// TestP1001GetSumFirst has a wrong sum come ahead of a number that is another one.
func TestP1001GetSumFirst(t *testing.T) {
	good, other := both(image(7, 3)), both(image(8, 4))
	wrong := good[:63] + string([]byte{good[63] ^ 1})
	for _, block := range append(noBlocks(), 0, 6, 8, 9) {
		fails(t, "the first sum is wrong", block, wrong+good[64:], api.ErrSum)
		fails(t, "the last sum is wrong", block, good[:64]+wrong, api.ErrSum)
		fails(t, "the first sum is wrong, the last sector another's", block, wrong+other[64:], api.ErrSum)
		fails(t, "the last sum is wrong, the first sector another's", block, other[:64]+wrong, api.ErrSum)
	}
}

func TestP1001GetForm(t *testing.T) {
	for _, block := range blocks() {
		good := both(image(block, 3))
		for _, other := range append(blocks(), noBlocks()...) {
			if other == block {
				continue
			}
			fails(t, "asked as another", other, good, api.ErrForm)
			if int(uint32(other)) == block {
				continue
			}
			x := both(image(other, 3))
			fails(t, "the first sector is another's", block, x[:64]+good[64:], api.ErrForm)
			fails(t, "the last sector is another's", block, good[:64]+x[64:], api.ErrForm)
			fails(t, "both are another's", block, x, api.ErrForm)
		}
	}
}

// TestP1001GetNoBlock has sectors that say just the number that is asked, which no block has.
func TestP1001GetNoBlock(t *testing.T) {
	for _, block := range noBlocks() {
		fails(t, "a block that is none", block, both(image(block, 3)), api.ErrForm)
	}
}

// TestP1001GetFormFirst has a wrong number come ahead of two versions.
func TestP1001GetFormFirst(t *testing.T) {
	x, y, z := both(image(7, 3)), both(image(8, 4)), both(image(4096, 5))
	fails(t, "the last sector is another's", 7, x[:64]+y[64:], api.ErrForm)
	fails(t, "the first sector is another's", 8, x[:64]+y[64:], api.ErrForm)
	fails(t, "both are", 9, x[:64]+y[64:], api.ErrForm)
	fails(t, "one is of none", 4096, x[:64]+z[64:], api.ErrForm)
	w := both(image(4096, 6))
	fails(t, "both are of none", 4096, z[:64]+w[64:], api.ErrForm)
}

func TestP1001GetTorn(t *testing.T) {
	for _, data := range datas() {
		for _, v := range versions() {
			old := api.Image{Block: 7, Version: v, Data: data}
			for bit := range 64 {
				anew := api.Image{Block: 7, Version: v ^ 1<<bit, Data: data}
				fails(t, "the first one is anew", 7, both(anew)[:64]+both(old)[64:], api.ErrSum)
				fails(t, "the last one is anew", 7, both(old)[:64]+both(anew)[64:], api.ErrSum)
			}
		}
	}
	// With the same version it is not to be seen that they are of two writes.
	x, y := api.Image{Block: 7, Version: 3, Data: rows(96, 1)}, api.Image{Block: 7, Version: 3, Data: rows(96, 2)}
	gets(t, "the same version", 7, both(x)[:64]+both(y)[64:], api.Image{Block: 7, Version: 3, Data: x.Data[:48] + y.Data[48:]})
}

func small() api.Shape {
	return api.Shape{Nodes: 2, Blocks: 10, Log: 8, Cache: 2, Lease: 32}
}

func layout() super.Layout { return super.Layout{Shape: small()} }

// formatted is a disk with an array, that admits the epoch 50 of the node 1 and 51 of the node 2.
func formatted(t *testing.T) *sdisk.Disk {
	t.Helper()
	d := sdisk.New(super.Size(small()) + 3)
	is(t, "Format", super.Format(d, small()), api.OK)
	is(t, "Admit", d.Admit(1, 50), api.OK)
	is(t, "Admit", d.Admit(2, 51), api.OK)
	return d
}

// all reads every sector.
func all(t *testing.T, d *sdisk.Disk) string {
	t.Helper()
	s, e := d.Read(0, d.Sectors())
	is(t, "Read", e, api.OK)
	return s
}

// loads holds what Load tells of a block that is whole.
func loads(t *testing.T, what string, d *sdisk.Disk, block int, want api.Image) {
	t.Helper()
	i, e := Load(d, layout(), block)
	is(t, what+": the error", e, api.OK)
	is(t, what, i, want)
}

// loadFails holds that Load tells an error, and no image.
func loadFails(t *testing.T, what string, d *sdisk.Disk, l super.Layout, block int, want api.Errno) {
	t.Helper()
	i, e := Load(d, l, block)
	is(t, what+": the error", e, want)
	is(t, what, i, api.Image{})
}

// refuses holds that Store tells an error, and changes nothing.
func refuses(t *testing.T, what string, d *sdisk.Disk, l super.Layout, node int, epoch uint64, i api.Image, want api.Errno) {
	t.Helper()
	before, waiting := "", [2]int{d.Waiting(1), d.Waiting(2)}
	if d.On() {
		before = all(t, d)
	}
	is(t, what, Store(d, l, node, epoch, i), want)
	if d.On() {
		is(t, what+": nothing is written", all(t, d) == before, true)
	}
	is(t, what+": nothing waits", [2]int{d.Waiting(1), d.Waiting(2)}, waiting)
}

func TestP1002Store(t *testing.T) {
	d := formatted(t)
	want := []byte(all(t, d))
	for n, block := range []int{0, 9, 4, 5, 3, 4} {
		node, i := 1+n%2, image(block, uint64(n+1))
		is(t, "Store", Store(d, layout(), node, uint64(49+node), i), api.OK)
		copy(want[(17+2*block)*64:], both(i))
		is(t, "just its two sectors are written", all(t, d) == string(want), true)
		loads(t, "it is loaded", d, block, i)
	}
	is(t, "what waits of 1", d.Waiting(1), 6)
	is(t, "what waits of 2", d.Waiting(2), 6)
}

func TestP1002Load(t *testing.T) {
	d := formatted(t)
	for block := range 10 {
		loads(t, "never written", d, block, api.Image{Block: block, Data: bytes0(96)})
	}
	i := image(4, 9)
	is(t, "Write", d.Write(1, 50, 17+8, both(i)), api.OK)
	before := all(t, d)
	loads(t, "Load", d, 4, i)
	loads(t, "the one ahead", d, 3, api.Image{Block: 3, Data: bytes0(96)})
	loads(t, "the one behind", d, 5, api.Image{Block: 5, Data: bytes0(96)})
	is(t, "nothing is changed", all(t, d) == before, true)
	is(t, "it waits still", d.Waiting(1), 2)
}

// TestP1002LoadOfGet has all that Get tells told by Load.
func TestP1002LoadOfGet(t *testing.T) {
	d := formatted(t)
	x, y, z := both(image(4, 9)), both(image(4, 10)), both(image(5, 9))
	for what, c := range map[string]struct {
		bytes string
		want  api.Errno
	}{
		"a wrong sum":           {x[:127] + "x", api.ErrSum},
		"one was never written": {x[:64] + bytes0(64), api.ErrSum},
		"another block's":       {z, api.ErrForm},
		"half another block's":  {x[:64] + z[64:], api.ErrForm},
		"torn":                  {y[:64] + x[64:], api.ErrSum},
	} {
		is(t, "Write", d.Write(1, 50, 17+8, c.bytes), api.OK)
		loadFails(t, what, d, layout(), 4, c.want)
		loads(t, "the one behind", d, 5, api.Image{Block: 5, Data: bytes0(96)})
	}
}

// shapesNone tells shapes that are not valid.
func shapesNone() []api.Shape {
	l := []api.Shape{{}}
	for k := range 5 {
		s := small()
		*[]*int{&s.Nodes, &s.Blocks, &s.Log, &s.Cache, &s.Lease}[k] = 1 << 20
		l = append(l, s)
	}
	return l
}

func TestP1002LoadErrors(t *testing.T) {
	d := formatted(t)
	off := d.Twin()
	off.Cut()
	for what, x := range map[string]*sdisk.Disk{"power": d, "no power": off, "no disk": nil, "a zero disk": {}} {
		for _, s := range shapesNone() {
			for _, block := range []int{0, -1, 10} {
				loadFails(t, what+": a layout that is not valid", x, super.Layout{Shape: s}, block, api.ErrArg)
			}
		}
		for _, block := range append(noBlocks(), 10, 11, 4095) {
			loadFails(t, what+": a block that is not there", x, layout(), block, api.ErrRange)
		}
	}
	for block := range 10 {
		loadFails(t, "without power", off, layout(), block, api.ErrOff)
		loadFails(t, "no disk", nil, layout(), block, api.ErrOff)
		loadFails(t, "a zero disk", &sdisk.Disk{}, layout(), block, api.ErrOff)
	}
	few := sdisk.New(17 + 2*5 + 1) // the block 5 has one sector, the ones behind it none
	for block := range 10 {
		if block < 5 {
			loads(t, "what a disk with too few sectors has", few, block, api.Image{Block: block, Data: bytes0(96)})
		} else {
			loadFails(t, "what it has not", few, layout(), block, api.ErrRange)
		}
	}
}

func TestP1002StoreErrors(t *testing.T) {
	d := formatted(t)
	is(t, "Store", Store(d, layout(), 1, 50, image(2, 1)), api.OK)
	off := d.Twin()
	off.Cut()
	wrong := api.Image{Block: 3, Version: 1, Data: rows(95, 0)}
	for what, x := range map[string]*sdisk.Disk{"power": d, "no power": off, "no disk": nil, "a zero disk": {}} {
		for _, s := range shapesNone() {
			for _, i := range []api.Image{image(0, 1), image(10, 1), image(-1, 1), wrong, {}} {
				refuses(t, what+": a layout that is not valid", x, super.Layout{Shape: s}, 1, 50, i, api.ErrArg)
			}
		}
		for _, b := range append(noBlocks(), 10, 11, 4095) {
			refuses(t, what+": a block that is not there", x, layout(), 1, 50, image(b, 1), api.ErrRange)
			refuses(t, what+": nor any bytes", x, layout(), 99, 0, api.Image{Block: b}, api.ErrRange)
		}
		for _, n := range []int{0, 1, 95, 97, 192} {
			refuses(t, what+": too few bytes, or too many", x, layout(), 1, 50, api.Image{Block: 3, Data: rows(n, 0)}, api.ErrArg)
			refuses(t, what+": and one that is fenced", x, layout(), 1, 49, api.Image{Block: 3, Data: rows(n, 0)}, api.ErrArg)
		}
	}
	refuses(t, "without power", off, layout(), 1, 50, image(3, 1), api.ErrOff)
	refuses(t, "without power, and fenced", off, layout(), 1, 49, image(3, 1), api.ErrOff)
	refuses(t, "no disk", nil, layout(), 1, 50, image(3, 1), api.ErrOff)
	refuses(t, "a zero disk", &sdisk.Disk{}, layout(), 1, 50, image(3, 1), api.ErrOff)
}

// TestP1002StoreFenced has all that Write tells told by Store.
func TestP1002StoreFenced(t *testing.T) {
	d := formatted(t)
	for _, node := range []int{-1, 17, math.MaxInt, math.MinInt} {
		refuses(t, "a node that is none", d, layout(), node, 50, image(2, 1), api.ErrArg)
	}
	for _, epoch := range []uint64{0, 1, 49, 51, 52, math.MaxUint64} {
		refuses(t, "an epoch that is not admitted", d, layout(), 1, epoch, image(2, 1), api.ErrFenced)
	}
	for _, node := range []int{0, 2, 3, 16} {
		refuses(t, "a node that it is not admitted for", d, layout(), node, 50, image(2, 1), api.ErrFenced)
	}
	is(t, "Fence", d.Fence(1), api.OK)
	refuses(t, "fenced", d, layout(), 1, 50, image(2, 1), api.ErrFenced)
	is(t, "the other one", Store(d, layout(), 2, 51, image(2, 1)), api.OK)

	few := sdisk.New(17 + 2*5 + 1)
	is(t, "Admit", few.Admit(1, 50), api.OK)
	is(t, "the last one that is there", Store(few, layout(), 1, 50, image(4, 1)), api.OK)
	refuses(t, "one sector is not there", few, layout(), 1, 50, image(5, 1), api.ErrRange)
	refuses(t, "both are not there", few, layout(), 1, 50, image(6, 1), api.ErrRange)
}

// TestP1002Armed has the power go at one Store, which counts as one Write; others use up nothing.
func TestP1002Armed(t *testing.T) {
	d := formatted(t)
	d.Arm(1, 1, 1)
	refuses(t, "fenced", d, layout(), 1, 49, image(2, 1), api.ErrFenced)
	loads(t, "Load", d, 2, api.Image{Block: 2, Data: bytes0(96)})
	is(t, "the one that is done", Store(d, layout(), 1, 50, image(2, 1)), api.OK)
	is(t, "the one that is not", Store(d, layout(), 1, 50, image(2, 2)), api.ErrOff)
	is(t, "the power is gone", d.On(), false)
	loadFails(t, "without power", d, layout(), 2, api.ErrOff)
	d.Restore()
	loads(t, "what stayed", d, 2, image(2, 1))
}

// TestP1003Stored stores each block again and again, and loads all, also behind a Cut.
func TestP1003Stored(t *testing.T) {
	d := formatted(t)
	var want [10]api.Image
	for b := range want {
		want[b] = api.Image{Block: b, Data: bytes0(96)}
	}
	for n := range 60 {
		i := image(n*7%10, uint64(n+1))
		is(t, "Store", Store(d, layout(), 1, 50, i), api.OK)
		want[i.Block] = i
		for b := range want {
			loads(t, "what was stored", d, b, want[b])
		}
	}
	is(t, "Barrier", d.Barrier(1, 50), api.OK)
	d.Cut()
	d.Restore()
	for b := range want {
		loads(t, "what lasts", d, b, want[b])
	}
}

func TestP1003Round(t *testing.T) {
	for _, i := range goods() {
		b, e := Put(i)
		is(t, "Put's error", e, api.OK)
		gets(t, "Get of Put", i.Block, b, i)
	}
	for n := range 97 {
		data, e := Pad(rows(n, 3))
		is(t, "Pad's error", e, api.OK)
		i := api.Image{Block: n, Version: uint64(n), Data: data}
		b, e := Put(i)
		is(t, "Put's error", e, api.OK)
		gets(t, "Get of Put of Pad", n, b, i)
	}
}

// TestP1003Torn cuts the power behind writes that wait, with each choice of sectors that stay: a block is
// one that was stored (or never written), or is torn.
func TestP1003Torn(t *testing.T) {
	same := strings.Repeat("s", 96)
	for _, datas := range [][3]string{{rows(96, 1), rows(96, 2), rows(96, 3)}, {same, same, same}, {bytes0(96), same, bytes0(96)}} {
		for _, lasts := range []bool{false, true} {
			d := formatted(t)
			old := api.Image{Block: 4, Data: bytes0(96)}
			if lasts {
				old = api.Image{Block: 4, Version: 1, Data: datas[0]}
				is(t, "Store", Store(d, layout(), 1, 50, old), api.OK)
				is(t, "Barrier", d.Barrier(1, 50), api.OK)
			}
			second, third := api.Image{Block: 4, Version: 2, Data: datas[1]}, api.Image{Block: 4, Version: 3, Data: datas[2]}
			is(t, "Store", Store(d, layout(), 1, 50, second), api.OK)
			is(t, "Store", Store(d, layout(), 1, 50, third), api.OK)
			for keep := range 16 {
				x := d.Twin()
				is(t, "how many waited", x.Cut(keep, keep>>1, keep>>2, keep>>3), 4)
				x.Restore()
				latest := [4]api.Image{old, second, third, third} // by which of the two writes a sector is kept
				first, last := latest[keep&1|keep>>1&2], latest[keep>>1&1|keep>>2&2]
				if first == last {
					loads(t, "both sectors of one", x, 4, first)
				} else {
					loadFails(t, "torn", x, layout(), 4, api.ErrSum)
				}
				loads(t, "the one ahead", x, 3, api.Image{Block: 3, Data: bytes0(96)})
				loads(t, "the one behind", x, 5, api.Image{Block: 5, Data: bytes0(96)})
			}
		}
	}
}
