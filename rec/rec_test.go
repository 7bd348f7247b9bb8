package rec

import (
	"hash/crc32"
	"math"
	"slices"
	"strings"
	"testing"

	"commons/api"
)

// is holds one answer against what is wanted.
func is[T comparable](t *testing.T, what string, got, want T) {
	t.Helper()
	if got != want {
		t.Errorf("%s: %#v, not %#v", what, got, want) // many bytes are no text
	}
}

// number lays v by hand in n bytes, the lowest first.
func number(v uint64, n int) string {
	var b []byte
	for k := range n {
		b = append(b, byte(v>>(8*k)))
	}
	return string(b)
}

// stamped has bytes 0 behind a text up to 60 bytes, and the sum of all these.
func stamped(text string) string {
	text += bytes0(60 - len(text))
	return text + number(uint64(crc32.ChecksumIEEE([]byte(text))), 4)
}

// sector lays one by hand.
func sector(epoch, lsn uint64, place, images int, data string) string {
	return stamped(number(epoch, 8) + number(lsn, 8) + number(uint64(place), 1) + number(uint64(images), 1) + data)
}

// images lays images by hand.
func images(l []api.Image) string {
	b := ""
	for _, i := range l {
		b += number(uint64(i.Block), 4) + number(i.Version, 8) + i.Data
	}
	return b
}

// cut lays by hand the sectors of a record that says so many images, and has these bytes of them.
func cut(epoch, lsn uint64, n int, data string) string {
	b := ""
	for place := 0; data != ""; place++ {
		at := min(42, len(data))
		b += sector(epoch, lsn, place, n, data[:at])
		data = data[at:]
	}
	return b
}

// all lays a record by hand.
func all(r Record) string { return cut(r.Epoch, r.Lsn, len(r.Images), images(r.Images)) }

// rows has n bytes, each other than the ones beside it; k says from which on.
func rows(n, k int) string {
	b := make([]byte, n)
	for at := range b {
		b[at] = byte(k + 7*at)
	}
	return string(b)
}

func bytes0(n int) string { return strings.Repeat("\x00", n) }

// image has bytes 0 in its last place: so they are told from what a record is made up with.
func image(block int, version uint64) api.Image {
	return api.Image{Block: block, Version: version, Data: rows(95, block+int(version)) + "\x00"}
}

// record has n images, whose blocks rise with gaps up to the last one of all.
func record(epoch, lsn uint64, n int) Record {
	r := Record{Epoch: epoch, Lsn: lsn}
	for k := range n {
		r.Images = append(r.Images, image(4095-5*(n-1-k), uint64(k)))
	}
	return r
}

// good is a record of two images, in six sectors.
func good() Record {
	return Record{Epoch: 258, Lsn: 3, Images: []api.Image{image(5, 9), image(7, 1)}}
}

func numbers() []uint64 {
	return []uint64{1, 2, 255, 256, 1<<32 - 1, 1 << 32, 0x0102030405060708, 1 << 63, math.MaxUint64}
}

// goods tells records of all sizes, and of all edges.
func goods() []Record {
	var l []Record
	for n := 1; n <= 60; n++ {
		l = append(l, record(uint64(n), uint64(61-n), n))
	}
	for _, v := range numbers() {
		l = append(l, record(v, 1, 1), record(1, v, 2), record(v, v, 7))
		l = append(l, Record{Epoch: 1, Lsn: 1, Images: []api.Image{image(0, v), image(1, math.MaxUint64-v), image(4095, v-1)}})
	}
	for _, data := range []string{bytes0(96), strings.Repeat("\xff", 96), bytes0(95) + "x", "x" + bytes0(95)} {
		l = append(l, Record{Epoch: 1, Lsn: 1, Images: []api.Image{{Data: data}}})
		l = append(l, Record{Epoch: 1, Lsn: 1, Images: []api.Image{{Data: data}, {Block: 4095, Data: data}}})
	}
	return l
}

// same holds a record that is told against what is wanted.
func same(t *testing.T, what string, got, want Record) {
	t.Helper()
	if got.Epoch != want.Epoch || got.Lsn != want.Lsn || !slices.Equal(got.Images, want.Images) {
		t.Errorf("%s: %#v, not %#v", what, got, want)
	}
}

// gets holds what Get tells of bytes that begin with a record.
func gets(t *testing.T, what, b string, want Record, sectors int) {
	t.Helper()
	r, n, e := Get(b)
	is(t, what+": the error", e, api.OK)
	is(t, what+": its sectors", n, sectors)
	same(t, what, r, want)
}

// fails holds that Get tells an error, and no record.
func fails(t *testing.T, what, b string, want api.Errno) {
	t.Helper()
	r, n, e := Get(b)
	is(t, what+": the error", e, want)
	is(t, what+": its sectors", n, 0)
	is(t, what+": its images are nil", r.Images == nil, true)
	same(t, what, r, Record{})
}

// puts holds that Put tells an error, and no bytes.
func puts(t *testing.T, what string, r Record, want api.Errno) {
	t.Helper()
	b, e := Put(r)
	is(t, what+": the error", e, want)
	is(t, what, b, "")
}

// swap tells b with another sector in that place.
func swap(b string, place int, sector string) string {
	return b[:64*place] + sector + b[64*place+64:]
}

// flip tells b with one bit changed.
func flip(b string, at, bit int) string {
	x := []byte(b)
	x[at] ^= 1 << bit
	return string(x)
}

func TestP1101Sectors(t *testing.T) {
	is(t, "one", Sectors(1), 3)
	is(t, "two", Sectors(2), 6)
	is(t, "seven have just whole sectors", Sectors(7), 18)
	is(t, "eight", Sectors(8), 21)
	is(t, "sixty", Sectors(60), 155)
	n := 0
	for k := 1; k <= 60; k++ {
		for 42*n < 108*k {
			n++
		}
		is(t, "Sectors", Sectors(k), n)
	}
}

func TestP1101SectorsOfNone(t *testing.T) {
	for _, n := range []int{0, -1, -2, -60, 61, 62, 255, 256, 257, 1 << 32, 1<<32 + 1, 1 - 1<<32, math.MaxInt, math.MinInt, math.MinInt + 1, math.MaxInt/108 + 1} {
		is(t, "Sectors of none", Sectors(n), 0)
	}
}

// most counts by the words: the greatest number whose sectors are at most half.
func most(log int) int {
	n := 0
	for k := 1; k <= 60; k++ {
		if 2*Sectors(k) <= log-1 {
			n = k
		}
	}
	return n
}

func TestP1101Most(t *testing.T) {
	is(t, "of 33", Most(33), 6)
	is(t, "of 6", Most(6), 0)
	is(t, "of 7", Most(7), 1)
	is(t, "of 8", Most(8), 1)
	is(t, "of 12", Most(12), 1)
	is(t, "of 13", Most(13), 2)
	is(t, "of 256", Most(256), 49)
	is(t, "of 310", Most(310), 59)
	is(t, "of 311", Most(311), 60)
	for log := -300; log <= 1000; log++ {
		is(t, "Most", Most(log), most(log))
	}
}

func TestP1101MostEdges(t *testing.T) {
	for _, log := range []int{1000, 1 << 16, 99999, 100000} {
		is(t, "of a great one", Most(log), 60)
	}
	for _, log := range []int{100001, 100002, 1 << 32, 1<<32 + 33, math.MaxInt / 42, math.MaxInt - 1, math.MaxInt} {
		is(t, "of one too great", Most(log), 0)
	}
	for _, log := range []int{0, -1, -33, 33 - 1<<32, math.MinInt, math.MinInt + 1, math.MinInt + 33} {
		is(t, "of one below 1", Most(log), 0)
	}
}

func TestP1102PutByHand(t *testing.T) {
	a, z := strings.Repeat("a", 96), strings.Repeat("z", 96)
	b, e := Put(Record{Epoch: 0x0102030405060708, Lsn: 0x1112131415161718, Images: []api.Image{
		{Block: 0x0203, Version: 0x2122232425262728, Data: a},
		{Block: 0x0301, Version: 0, Data: z},
	}})
	is(t, "Put's error", e, api.OK)
	whose := "\x08\x07\x06\x05\x04\x03\x02\x01" + "\x18\x17\x16\x15\x14\x13\x12\x11"
	data := "\x03\x02\x00\x00" + "\x28\x27\x26\x25\x24\x23\x22\x21" + a + "\x01\x03\x00\x00" + bytes0(8) + z
	is(t, "how many bytes", len(b), 6*64)
	is(t, "the first sector", b[:60], whose+"\x00\x02"+data[:42])
	is(t, "the second one", b[64:124], whose+"\x01\x02"+data[42:84])
	is(t, "the last one", b[320:380], whose+"\x05\x02"+data[210:]+bytes0(36))
	for place := range 6 {
		one := b[64*place : 64*place+64]
		is(t, "each one is stamped", one, stamped(one[:60]))
	}
}

func TestP1102Put(t *testing.T) {
	for _, r := range goods() {
		b, e := Put(r)
		is(t, "Put's error", e, api.OK)
		is(t, "Put", b == all(r), true)
		is(t, "how many sectors", len(b), 64*Sectors(len(r.Images)))
	}
}

func TestP1102PutKeeps(t *testing.T) {
	r, want := record(1, 2, 9), record(1, 2, 9)
	r.Images = r.Images[:5]
	Put(r)
	same(t, "what was handed in", Record{1, 2, r.Images[:9]}, want)
}

func TestP1102PutNumbers(t *testing.T) {
	for _, v := range append(numbers(), 0) {
		puts(t, "the Epoch is 0", record(0, v, 1), api.ErrArg)
		puts(t, "the Lsn is 0", record(v, 0, 60), api.ErrArg)
		puts(t, "no image", record(v, 1, 0), api.ErrArg)
	}
	puts(t, "a list that is empty", Record{Epoch: 1, Lsn: 1, Images: []api.Image{}}, api.ErrArg)
	puts(t, "a zero record", Record{}, api.ErrArg)
}

func TestP1102PutImages(t *testing.T) {
	for _, n := range []int{1, 2, 3, 60, 61} {
		for k := range n {
			wrong := func(what string, i api.Image) {
				t.Helper()
				r := record(1, 1, n)
				r.Images[k] = i
				puts(t, what, r, api.ErrArg)
			}
			old := record(1, 1, n).Images[k]
			for _, block := range []int{-1, 4096, 4097, 1<<32 + old.Block, old.Block - 1<<32, math.MaxInt, math.MinInt} {
				wrong("a block that is none", api.Image{Block: block, Version: 1, Data: old.Data})
			}
			for _, size := range []int{0, 1, 42, 95, 97, 108, 192} {
				wrong("too few bytes, or too many", api.Image{Block: old.Block, Version: 1, Data: rows(size, 0)})
			}
			wrong("a zero image", api.Image{})
		}
	}
}

func TestP1102PutRising(t *testing.T) {
	for _, n := range []int{2, 3, 9, 60, 61} {
		for k := range n - 1 {
			r := record(1, 1, n)
			r.Images[k+1] = image(r.Images[k].Block, 99)
			puts(t, "twice the same block", r, api.ErrArg)
			r = record(1, 1, n)
			r.Images[k], r.Images[k+1] = r.Images[k+1], r.Images[k]
			puts(t, "two that fall", r, api.ErrArg)
		}
		r := record(1, 1, n)
		r.Images[n-1] = image(r.Images[0].Block, 99)
		puts(t, "the last one is as the first one", r, api.ErrArg)
	}
	r := record(1, 1, 60)
	slices.Reverse(r.Images)
	puts(t, "all fall", r, api.ErrArg)
	b, e := Put(Record{Epoch: 1, Lsn: 1, Images: []api.Image{image(0, 5), image(1, 3), image(2, 3)}})
	is(t, "versions need not rise", e, api.OK)
	is(t, "how many bytes", len(b), 8*64)
}

// every tells a record of the first n blocks.
func every(epoch, lsn uint64, n int) Record {
	r := Record{Epoch: epoch, Lsn: lsn}
	for block := range n {
		r.Images = append(r.Images, image(block, 1))
	}
	return r
}

func TestP1102PutLong(t *testing.T) {
	b, e := Put(every(1, 1, 60))
	is(t, "sixty", e, api.OK)
	is(t, "its bytes", len(b), 155*64)
	for _, n := range []int{61, 62, 255, 256, 257, 300, 512, 4096} {
		puts(t, "too many", every(1, 1, n), api.ErrLong)
		puts(t, "too many, and Epoch 0", every(0, 1, n), api.ErrArg)
		puts(t, "too many, and Lsn 0", every(1, 0, n), api.ErrArg)
		r := every(1, 1, n)
		r.Images[n-1].Data = ""
		puts(t, "too many, and the last one has no bytes", r, api.ErrArg)
		r = every(1, 1, n)
		r.Images[n-1].Block = n - 2
		puts(t, "too many, and the last one does not rise", r, api.ErrArg)
	}
	puts(t, "more than there are blocks", every(1, 1, 4097), api.ErrArg)
}

func TestP1102Get(t *testing.T) {
	for _, r := range goods() {
		gets(t, "Get", all(r), r, Sectors(len(r.Images)))
	}
}

func TestP1102GetApart(t *testing.T) {
	b := all(good())
	x, _, _ := Get(b)
	y, _, _ := Get(b)
	x.Images[0], x.Images[1] = api.Image{}, api.Image{}
	same(t, "each answer is new", y, good())
	_ = append(y.Images[:1], api.Image{})
	gets(t, "and nothing is kept", b, good(), 6)
}

func TestP1102GetShort(t *testing.T) {
	for _, r := range []Record{good(), record(1, 1, 1), record(1, 1, 60), {Epoch: 1, Lsn: 1, Images: []api.Image{{Data: bytes0(96)}}}} {
		b := all(r)
		for n := range len(b) {
			fails(t, "too few bytes", b[:n], api.ErrShort)
		}
	}
	for n := range 64 {
		fails(t, "so many bytes 0", bytes0(n), api.ErrShort)
		fails(t, "so many bytes 255", strings.Repeat("\xff", n), api.ErrShort)
	}
}

// TestP1102GetShortLast has what is wrong in the first sector come ahead of too few.
func TestP1102GetShortLast(t *testing.T) {
	b, data := all(good()), images(good().Images)[:42]
	for _, n := range []int{64, 65, 127, 128, 383} {
		fails(t, "a wrong sum", flip(b, 0, 0)[:n], api.ErrSum)
		fails(t, "its sum is wrong", flip(b, 63, 7)[:n], api.ErrSum)
		fails(t, "no Epoch", (sector(0, 3, 0, 2, data) + b[64:])[:n], api.ErrForm)
		fails(t, "no Lsn", (sector(258, 0, 0, 2, data) + b[64:])[:n], api.ErrForm)
		fails(t, "not its first one", (sector(258, 3, 1, 2, data) + b[64:])[:n], api.ErrForm)
		fails(t, "no images", (sector(258, 3, 0, 0, data) + b[64:])[:n], api.ErrForm)
		fails(t, "too many images", (sector(258, 3, 0, 61, data) + b[64:])[:n], api.ErrForm)
	}
	// And too few come ahead of what is wrong behind the first one.
	for place := 1; place < 6; place++ {
		fails(t, "a wrong sum behind", flip(b, 64*place, 0)[:383], api.ErrShort)
		fails(t, "another's behind", swap(b, place, sector(1, 1, 0, 1, ""))[:383], api.ErrShort)
	}
	fails(t, "a block that is none", sector(258, 3, 0, 2, strings.Repeat("\xff", 42))+b[64:383], api.ErrShort)
}

func TestP1102GetSum(t *testing.T) {
	for _, r := range []Record{good(), record(1, 1, 1), {Epoch: 1, Lsn: 1, Images: []api.Image{{Data: bytes0(96)}}}} {
		b := all(r)
		for at := range len(b) {
			for bit := range 8 {
				fails(t, "a bit is changed", flip(b, at, bit), api.ErrSum)
			}
		}
		for place := range len(b) / 64 {
			fails(t, "a sector has bytes 0", swap(b, place, bytes0(64)), api.ErrSum)
			fails(t, "a sector has bytes 255", swap(b, place, strings.Repeat("\xff", 64)), api.ErrSum)
		}
	}
	fails(t, "bytes 0", bytes0(64), api.ErrSum)
	fails(t, "many bytes 0", bytes0(6400), api.ErrSum)
}

func TestP1102GetFirst(t *testing.T) {
	b, data := all(good()), images(good().Images)[:42]
	gets(t, "laid by hand", sector(258, 3, 0, 2, data)+b[64:], good(), 6)
	for _, v := range append(numbers(), 0) {
		// The whole record says so, not its first sector alone.
		fails(t, "no Epoch", all(record(0, v, 2)), api.ErrForm)
		fails(t, "no Lsn", all(record(v, 0, 2)), api.ErrForm)
	}
	for place := 1; place < 256; place++ {
		fails(t, "not its first one", sector(258, 3, place, 2, data)+b[64:], api.ErrForm)
	}
	fails(t, "from its second one on", b[64:]+b[:64], api.ErrForm)
	for _, n := range []int{61, 62, 63, 64, 127, 128, 129, 254, 255} {
		fails(t, "too many images", all(record(1, 1, n)), api.ErrForm)
	}
	for _, bytes := range []int{0, 1, 42} {
		fails(t, "no images", sector(258, 3, 0, 0, data[:bytes])+b[64:], api.ErrForm)
	}
}

func TestP1102GetNext(t *testing.T) {
	for _, n := range []int{1, 2, 20, 60} {
		r := record(258, 3, n)
		b, data := all(r), images(r.Images)
		for place := 1; place < Sectors(n); place++ {
			if n == 60 && place%51 != 1 {
				continue // of many, the first one, the last one, and two between
			}
			part := data[42*place : min(42*place+42, len(data))]
			other := func(what string, epoch, lsn uint64, at, images int) {
				t.Helper()
				fails(t, what, swap(b, place, sector(epoch, lsn, at, images, part)), api.ErrForm)
			}
			for bit := range 64 {
				other("another Epoch", 258^1<<bit, 3, place, n)
				other("another Lsn", 258, 3^1<<bit, place, n)
			}
			for bit := range 8 {
				other("another place", 258, 3, place^1<<bit, n)
				other("another number of images", 258, 3, place, n^1<<bit)
			}
			other("Epoch and Lsn are turned", 3, 258, place, n)
			other("it stands for the one ahead", 258, 3, place-1, n)
			other("it stands for the one behind", 258, 3, place+1, n)
		}
	}
}

// TestP1102GetOrder has further sectors be asked in order, each for its sum first, and all of them ahead of what they have.
func TestP1102GetOrder(t *testing.T) {
	b, data := all(good()), images(good().Images)
	for i := 1; i < 6; i++ {
		for _, other := range []string{sector(259, 3, i, 2, ""), sector(258, 2, i, 2, ""), sector(258, 3, i-1, 2, ""), sector(258, 3, i, 3, "")} {
			lost := swap(b, i, other)
			fails(t, "another's with a wrong sum", flip(lost, 64*i+30, 0), api.ErrSum)
			for j := 1; j < 6; j++ {
				want := api.ErrForm
				if j <= i {
					want = api.ErrSum
				}
				fails(t, "another's, and a wrong sum", flip(lost, 64*j, 0), want)
			}
		}
	}
	none := cut(258, 3, 2, "\xff\xff\xff\xff"+data[4:])
	fails(t, "a block that is none", none, api.ErrForm)
	for i := 1; i < 6; i++ {
		fails(t, "a block that is none, and a wrong sum", flip(none, 64*i, 0), api.ErrSum)
	}
}

func TestP1102GetImages(t *testing.T) {
	for _, n := range []int{1, 2, 3, 7, 60} {
		for k := range n {
			for _, block := range []uint64{4096, 4097, 8192, 1 << 16, 1 << 24, 1<<31 - 1, 1 << 31, 1<<32 - 1} {
				data := images(record(1, 1, n).Images)
				data = data[:108*k] + number(block, 4) + data[108*k+4:]
				fails(t, "a block that is none", cut(1, 1, n, data), api.ErrForm)
			}
		}
		for k := range n - 1 {
			r := record(1, 1, n)
			r.Images[k+1].Block = r.Images[k].Block
			fails(t, "twice the same block", all(r), api.ErrForm)
			r = record(1, 1, n)
			r.Images[k], r.Images[k+1] = r.Images[k+1], r.Images[k]
			fails(t, "two that fall", all(r), api.ErrForm)
		}
	}
}

func TestP1102GetMadeUp(t *testing.T) {
	for _, n := range []int{1, 2, 3, 6, 8, 60} {
		r := record(1, 1, n)
		data := images(r.Images)
		for at := range 42*Sectors(n) - len(data) {
			for _, c := range []string{"\x01", "\x80", "\xff"} {
				fails(t, "a byte behind the last ones", cut(1, 1, n, data+bytes0(at)+c), api.ErrForm)
			}
		}
	}
	r := record(1, 1, 7) // its bytes fill their sectors just up
	gets(t, "none are made up", all(r), r, 18)
}

func TestP1103PutHeadByHand(t *testing.T) {
	b, e := PutHead(Head{Epoch: 0x0102030405060708, Lsn: 0x1112131415161718, At: 0x81})
	is(t, "PutHead's error", e, api.OK)
	text := "HEAD" + "\x08\x07\x06\x05\x04\x03\x02\x01" + "\x18\x17\x16\x15\x14\x13\x12\x11" + "\x81\x00\x00\x00"
	is(t, "its bytes", b[:60], text+bytes0(36))
	is(t, "all", b, stamped(text))
}

// head lays one by hand.
func head(h Head) string {
	return stamped("HEAD" + number(h.Epoch, 8) + number(h.Lsn, 8) + number(uint64(h.At), 4))
}

func heads() []Head {
	var l []Head
	for _, v := range numbers() {
		for _, at := range []int{0, 1, 2, 127, 128, 254, 255, 256} {
			l = append(l, Head{v, 1, at}, Head{1, v, at}, Head{v, v, at})
		}
	}
	return l
}

func TestP1103PutHead(t *testing.T) {
	for _, h := range heads() {
		b, e := PutHead(h)
		is(t, "PutHead's error", e, api.OK)
		is(t, "PutHead", b, head(h))
	}
}

// noPlaces tells places that no head has, also such as one has when they are cut to fewer bits.
func noPlaces() []int {
	return []int{-1, -2, -256, 257, 258, 512, 1 << 16, math.MaxUint32, 1 << 32, 1<<32 + 7, 7 - 1<<32, math.MaxInt, math.MinInt, math.MinInt + 7}
}

func TestP1103PutHeadErrors(t *testing.T) {
	wrong := []Head{{}, {At: 1}}
	for _, v := range numbers() {
		wrong = append(wrong, Head{0, v, 1}, Head{v, 0, 1}, Head{0, v, 0}, Head{v, 0, 256})
		for _, at := range noPlaces() {
			wrong = append(wrong, Head{v, 1, at}, Head{1, v, at})
		}
	}
	for _, h := range wrong {
		b, e := PutHead(h)
		is(t, "the error", e, api.ErrArg)
		is(t, "its bytes", b, "")
	}
}

// headFails holds that GetHead tells an error, and no head.
func headFails(t *testing.T, what, b string, want api.Errno) {
	t.Helper()
	h, e := GetHead(b)
	is(t, what+": the error", e, want)
	is(t, what, h, Head{})
}

func TestP1103GetHead(t *testing.T) {
	for _, want := range heads() {
		h, e := GetHead(head(want))
		is(t, "GetHead's error", e, api.OK)
		is(t, "GetHead", h, want)
	}
}

func TestP1103GetHeadShort(t *testing.T) {
	b := head(Head{5, 6, 7})
	long := b + b + b
	for n := range len(long) {
		if n == 64 {
			continue
		}
		headFails(t, "other than 64 bytes", long[:n], api.ErrShort)
		headFails(t, "so many bytes 0", bytes0(n), api.ErrShort)
	}
	headFails(t, "a byte 0 behind", b+"\x00", api.ErrShort)
	headFails(t, "a byte 0 ahead", "\x00"+b, api.ErrShort)
}

func TestP1103GetHeadSum(t *testing.T) {
	for _, h := range []Head{{5, 6, 7}, {1, 1, 0}, {math.MaxUint64, math.MaxUint64, 256}} {
		for at := range 64 {
			for bit := range 8 {
				headFails(t, "a bit is changed", flip(head(h), at, bit), api.ErrSum)
			}
		}
	}
	headFails(t, "bytes 0", bytes0(64), api.ErrSum)
	headFails(t, "bytes 255", strings.Repeat("\xff", 64), api.ErrSum)
	wrong := stamped("FEET" + bytes0(56))
	headFails(t, "a wrong sum comes ahead of the form", flip(wrong, 63, 0), api.ErrSum)
}

func TestP1103GetHeadForm(t *testing.T) {
	headFails(t, "no Epoch", head(Head{0, 6, 7}), api.ErrForm)
	headFails(t, "no Lsn", head(Head{5, 0, 7}), api.ErrForm)
	for _, at := range []int{257, 258, 512, 1 << 16, 1<<16 + 7, 1 << 24, 1<<31 - 1, 1 << 31, math.MaxUint32} {
		headFails(t, "a place that no head has", head(Head{5, 6, at}), api.ErrForm)
	}
	text := head(Head{5, 6, 7})[:60]
	for at := range 4 {
		for bit := range 8 {
			headFails(t, "another mark", stamped(flip(text, at, bit)), api.ErrForm)
		}
	}
	for at := 24; at < 60; at++ {
		for bit := range 8 {
			headFails(t, "a byte behind", stamped(flip(text, at, bit)), api.ErrForm)
		}
	}
	headFails(t, "a sum of bytes 0", stamped(""), api.ErrForm)
	headFails(t, "a sector of a record", all(good())[:64], api.ErrForm)
	fails(t, "and a head is no record", head(Head{5, 6, 7})+all(good()), api.ErrForm)
}

func TestP1104PutIsGot(t *testing.T) {
	for _, r := range goods() {
		b, e := Put(r)
		is(t, "Put's error", e, api.OK)
		n := Sectors(len(r.Images))
		for _, behind := range []string{"", "x", "\x00", bytes0(64), bytes0(6400), rows(63, 0), b, b[:64], strings.Repeat("\xff", 200)} {
			gets(t, "whatever stands behind it", b+behind, r, n)
		}
	}
	for _, want := range heads() {
		b, _ := PutHead(want)
		h, e := GetHead(b)
		is(t, "GetHead's error", e, api.OK)
		is(t, "a head", h, want)
	}
}

func TestP1104ByteChanged(t *testing.T) {
	b, _ := Put(good())
	for at := range len(b) {
		for v := range 256 {
			x := b[:at] + string([]byte{byte(v)}) + b[at+1:]
			if x == b {
				continue
			}
			if _, n, e := Get(x + b); e == api.OK || n != 0 {
				t.Fatalf("byte %d is %d: %d sectors, error %d", at, v, n, e)
			}
		}
	}
}

// TestP1104Lost has each choice of sectors be lost, where an older record stands.
func TestP1104Lost(t *testing.T) {
	r := good()
	b, _ := Put(r)
	for what, old := range map[string]Record{
		"an Lsn ahead":    {258, 2, r.Images},
		"an older epoch":  {257, 3, r.Images},
		"both":            {1, 1, r.Images},
		"a later epoch":   {259, 3, r.Images},
		"other images":    {258, 2, []api.Image{image(1, 1), image(2, 2)}},
		"bytes 0 of some": {258, 2, []api.Image{{Data: bytes0(96)}, {Block: 1, Data: bytes0(96)}}},
	} {
		stands, e := Put(old)
		is(t, "Put's error", e, api.OK)
		for lost := range 1 << 6 {
			x := b
			for place := range 6 {
				if lost&(1<<place) != 0 {
					x = swap(x, place, stands[64*place:64*place+64])
				}
			}
			switch lost {
			case 0:
				gets(t, what+": none is lost", x, r, 6)
			case 1<<6 - 1:
				gets(t, what+": all are lost", x, old, 6)
			default:
				fails(t, what+": some are lost", x, api.ErrForm)
			}
		}
	}
}

// TestP1104LostShifted has older records of other sizes stand there, from other places on.
func TestP1104LostShifted(t *testing.T) {
	r := good()
	b, _ := Put(r)
	older := ""
	for lsn := uint64(1); lsn < 3; lsn++ {
		for _, n := range []int{1, 2, 7, 2} {
			x, _ := Put(record(258, lsn, n))
			older += x
		}
	}
	for from := 0; from+6*64 <= len(older); from += 64 {
		for place := range 6 {
			lost := swap(b, place, older[from+64*place:from+64*place+64])
			fails(t, "an older sector", lost+older, api.ErrForm)
		}
	}
	for i := range 6 {
		for j := range 6 {
			if i != j {
				fails(t, "a sector of its own, in another place", swap(b, i, b[64*j:64*j+64]), api.ErrForm)
			}
		}
	}
}
