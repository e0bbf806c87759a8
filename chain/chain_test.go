package chain_test

import (
	"bytes"
	"math"
	"math/rand"
	"slices"
	"testing"

	"chantry/api"
	"chantry/chain"
	"chantry/crc"
	"chantry/disk"
)

// sizes are those of texts of one to a few cells, with their edges.
var sizes = []int{1, 2, 241, 242, 243, 300, 483, 484, 485, 726, 727}

// owners are those that may be, with their edges.
var owners = []int{1, 2, 255, 256, 65536, 0x12345678, api.MaxNum - 1, api.MaxNum}

// outside are ints that are below all fields of a part, or past them: near and far, and such as seem right in fewer bits.
var outside = []int{
	-1, -2, -255, -256, -65536, -1 << 18, math.MinInt32 + 1, math.MinInt32, -1<<32 + 5, -1 << 32, math.MinInt + 1, math.MinInt + 5, math.MinInt,
	1 << 31, 1<<31 + 5, 1<<32 - 1, 1 << 32, 1<<32 + 1, 1<<32 + 5, 1 << 40, math.MaxInt - 1, math.MaxInt,
}

// filled answers n bytes, none of them zero, and none as those near it.
func filled(n, seed int) []byte {
	b := make([]byte, n)
	for i := range b {
		b[i] = byte(1 + (i*7+i/242*5+seed*53)%255)
	}
	return b
}

// loaded answers a disk of so many blocks of bytes that are no cell's.
func loaded(t *testing.T, blocks, seed int) *disk.Disk {
	t.Helper()
	d, e := disk.Load(filled(blocks*256, seed))
	if e != api.OK {
		t.Fatalf("Load of %d blocks: %d", blocks, e)
	}
	return d
}

// shuffled answers n blocks of a disk from 2 on, in any order.
func shuffled(r *rand.Rand, n, blocks int) []int {
	l := r.Perm(blocks - 2)[:n]
	for i := range l {
		l[i] += 2
	}
	return l
}

func count(size int) int {
	n := 0
	for size > n*242 {
		n++
	}
	return n
}

// sealed answers the bytes that the document says a cell has, shift by shift, be it one that may be or not.
func sealed(owner, number, next int, data []byte) []byte {
	b := make([]byte, 252)
	for i := range 4 {
		b[i] = byte(owner >> (8 * i))
	}
	for i := range 2 {
		b[4+i], b[6+i], b[8+i] = byte(number>>(8*i)), byte(next>>(8*i)), byte(len(data)>>(8*i))
	}
	copy(b[10:], data)
	return crc.Seal(b)
}

// chained answers the bytes of each block of a text's chain.
func chained(owner int, places []int, text []byte) [][]byte {
	l := make([][]byte, len(places))
	for i := range l {
		next := 0
		if i+1 < len(l) {
			next = places[i+1]
		}
		l[i] = sealed(owner, i, next, text[i*242:min(i*242+242, len(text))])
	}
	return l
}

// imageWith answers an image in which the first n of a text's blocks are written.
func imageWith(image []byte, owner int, places []int, text []byte, n int) []byte {
	image = bytes.Clone(image)
	for i, b := range chained(owner, places, text)[:n] {
		copy(image[places[i]*256:], b)
	}
	return image
}

// written fails unless a text is written as the document says, to its blocks alone, and nothing is flushed.
func written(t *testing.T, d *disk.Disk, owner int, places []int, text []byte) api.Part {
	t.Helper()
	want, safe := imageWith(d.Image(), owner, places, text, len(places)), d.Safe()
	stat, waits := d.Stat(), d.Waits()
	stat.Writes += len(places)
	p, e := chain.Write(d, owner, places, text)
	if e != api.OK || p != (api.Part{First: places[0], Size: len(text), Owner: owner}) {
		t.Fatalf("Write(%d, %v, %d bytes): %+v, %d", owner, places, len(text), p, e)
	}
	if !bytes.Equal(d.Image(), want) {
		t.Fatalf("Write(%d, %v, %d bytes): the blocks are not as they must be", owner, places, len(text))
	}
	if !bytes.Equal(d.Safe(), safe) || d.Waits() != waits+len(places) || d.Stat() != stat {
		t.Fatalf("Write(%d, %v, %d bytes): %d wait, %+v, want %d, %+v", owner, places, len(text), d.Waits(), d.Stat(), waits+len(places), stat)
	}
	return p
}

// refused fails unless a Write is answered so, with nothing beside it, and the disk stays as it was.
func refused(t *testing.T, why string, d *disk.Disk, owner int, places []int, text []byte, want api.Errno) {
	t.Helper()
	image, safe, waits, stat, off := d.Image(), d.Safe(), d.Waits(), d.Stat(), d.Off()
	p, e := chain.Write(d, owner, places, text)
	if e != want || p != (api.Part{}) {
		t.Fatalf("%s: Write(%d, %v, %d bytes): %+v, %d, want %d", why, owner, places, len(text), p, e, want)
	}
	if !bytes.Equal(d.Image(), image) || !bytes.Equal(d.Safe(), safe) || d.Waits() != waits || d.Stat() != stat || d.Off() != off {
		t.Fatalf("%s: Write(%d, %v, %d bytes) has changed the disk", why, owner, places, len(text))
	}
}

// 10.1: parts of disks of all sizes, with the edges of each field, and what is past them.
func TestPart(t *testing.T) {
	is := func(first, size, owner, blocks int, want bool) {
		t.Helper()
		p := api.Part{First: first, Size: size, Owner: owner}
		if chain.Part(p, blocks) != want {
			t.Errorf("Part(%+v, %d): %t", p, blocks, !want)
		}
	}
	for _, blocks := range []int{3, 4, 16, 17, 255, 256, 1023, 1024, 1025, 65536, math.MaxInt} {
		for _, first := range []int{2, blocks/2 + 1, blocks - 1} {
			for _, size := range []int{1, 2, 242, 65536, 1<<18 - 1, 1 << 18} {
				for _, owner := range owners {
					is(first, size, owner, blocks, true)
				}
			}
		}
		for _, first := range []int{math.MinInt, math.MinInt32, -1 << 32, -blocks, -3, -2, -1, 0, 1, blocks, math.MaxInt} {
			is(first, 1, 1, blocks, false)
		}
		if blocks < math.MaxInt {
			is(blocks+1, 1, 1, blocks, false)
		}
		for _, n := range append([]int{0}, outside...) {
			is(2, n, 1, blocks, false)
			is(2, 1, n, blocks, false)
		}
		is(2, 1<<18+1, 1, blocks, false)
		is(2, 1, 1<<31, blocks, false)
	}
	for _, n := range outside {
		is(n, 1, 1, 16, false)
	}
	for _, blocks := range []int{2, 1, 0, -1, -2, -3, -16, math.MinInt32, math.MinInt + 2, math.MinInt + 1, math.MinInt} {
		for _, first := range []int{math.MinInt, -3, -1, 0, 1, 2, 3, 9, math.MaxInt} {
			is(first, 1, 1, blocks, false)
		}
	}
}

// The chapter's example: 300 bytes to 9, 5.
func TestExample(t *testing.T) {
	d, _ := disk.Blank(16)
	text := filled(300, 1)
	p := written(t, d, 3, []int{9, 5}, text)
	if p != (api.Part{First: 9, Size: 300, Owner: 3}) {
		t.Fatalf("%+v", p)
	}
	reads(t, "the example", d, p, text, []int{9, 5})
}

// 10.1 to 10.3: texts of all sizes, of all owners, to places in any order, are written, and read.
func TestWriteAndRead(t *testing.T) {
	r := rand.New(rand.NewSource(101))
	for _, size := range sizes {
		text := filled(size, size)
		for _, owner := range owners {
			for _, blocks := range []int{16, 17, 255, 256, 257, 1024} {
				places := shuffled(r, count(size), blocks)
				d := loaded(t, blocks, size)
				reads(t, "any", d, written(t, d, owner, places, text), text, places)
			}
		}
	}
	for size := 1; size <= 1200; size += 13 {
		d, text, places := loaded(t, 16, size), filled(size, size), shuffled(r, count(size), 16)
		reads(t, "any size", d, written(t, d, size, places, text), text, places)
	}
}

// 10.1: the blocks at the edges: 2, and the last one, at any place.
func TestBlocksAtTheEdges(t *testing.T) {
	for _, blocks := range []int{16, 17, 1024} {
		for _, places := range [][]int{{2}, {blocks - 1}, {2, blocks - 1}, {blocks - 1, 2}, {7, 2, 8}, {7, blocks - 1, 8}, {3, 4, 5}, {5, 4, 3}} {
			text := filled(len(places)*242, 2)
			d := loaded(t, blocks, 3)
			reads(t, "edges", d, written(t, d, 1, places, text), text, places)
		}
	}
}

// 10.1: a text may take all blocks from 2 on, but no more than there are.
func TestAllBlocks(t *testing.T) {
	r := rand.New(rand.NewSource(102))
	for _, blocks := range []int{16, 17, 256, 1024} {
		n := blocks - 2
		for _, less := range []int{0, 1, 241} {
			text, places := filled(n*242-less, blocks), shuffled(r, n, blocks)
			d := loaded(t, blocks, 4)
			reads(t, "all blocks", d, written(t, d, 9, places, text), text, places)
		}
		text := filled(n*242+1, blocks)
		for _, more := range []int{1, 2, 9, blocks, blocks + 1} {
			refused(t, "one more block", loaded(t, blocks, 4), 9, append(shuffled(r, n, blocks), more), text, api.ErrArg)
		}
	}
}

// 10.1: the blocks are written in the order of the text: so a crash tells, that keeps one write alone.
func TestOrderOfWrites(t *testing.T) {
	text, places := filled(4*242+5, 5), []int{9, 4, 15, 2, 7}
	for i := range places {
		d := loaded(t, 16, 5)
		image := d.Image()
		written(t, d, 8, places, text)
		masks := make([]int, len(places))
		masks[i] = 15
		d.Crash(masks)
		copy(image[places[i]*256:], chained(8, places, text)[i])
		if !bytes.Equal(d.Image(), image) {
			t.Fatalf("write %d was not that of block %d alone", i, places[i])
		}
	}
}

// 10.1: the power goes at any of the writes: that is the answer, what was written ahead of it waits, and so does it; nothing comes behind it.
func TestPowerGoes(t *testing.T) {
	text, places := filled(3*242+9, 6), []int{9, 4, 15, 2}
	for stop := range places {
		d := loaded(t, 16, 6)
		image := d.Image()
		d.Stop(stop)
		p, e := chain.Write(d, 8, places, text)
		if e != api.ErrOff || p != (api.Part{}) || !d.Off() {
			t.Fatalf("the power goes at write %d: %+v, %d", stop, p, e)
		}
		if d.Waits() != stop+1 || d.Stat().Writes != stop || !bytes.Equal(d.Safe(), image) {
			t.Fatalf("the power goes at write %d: %d wait, %+v", stop, d.Waits(), d.Stat())
		}
		part := api.Part{First: 9, Size: len(text), Owner: 8}
		readsNone(t, "off", d, part, api.ErrOff)
		d.Crash([]int{15, 15, 15, 15})
		if !bytes.Equal(d.Image(), imageWith(image, 8, places, text, stop+1)) {
			t.Fatalf("the power goes at write %d: behind it not as it must be", stop)
		}
		if stop < len(places)-1 {
			readsNone(t, "part of it", d, part, api.ErrRot)
		} else {
			reads(t, "all of it was kept", d, part, text, places)
		}
		reads(t, "again", d, written(t, d, 8, places, text), text, places)
	}
	d := loaded(t, 16, 6)
	d.Stop(len(places))
	written(t, d, 8, places, text)
	if e := d.Flush(); e != api.ErrOff {
		t.Fatalf("a Write took other deeds than its blocks: %d", e)
	}
}

// 10.1: what can't be cut has 9's error, ahead of what is wrong with the places.
func TestWriteOfWhatCannotBeCut(t *testing.T) {
	d := loaded(t, 1024, 7)
	d.Write(500, filled(256, 1)) // and this waits on
	long := filled(api.MaxBytes+1, 7)
	for _, owner := range append([]int{0, 3}, outside...) {
		for _, places := range [][]int{nil, {}, {0}, {2}, {9, 9}, make([]int, 1084), make([]int, 1085)} {
			refused(t, "too long", d, owner, places, long, api.ErrLong)
		}
	}
	for _, places := range [][]int{nil, {}, {0}, {2}, {2, 3}} {
		refused(t, "no text", d, 3, places, nil, api.ErrArg)
		refused(t, "no text", d, 3, places, []byte{}, api.ErrArg)
	}
	for _, size := range sizes {
		n := count(size)
		refused(t, "no places", d, 3, nil, filled(size, 1), api.ErrArg)
		refused(t, "one too few", d, 3, rising(n-1), filled(size, 1), api.ErrArg)
		refused(t, "one too many", d, 3, rising(n+1), filled(size, 1), api.ErrArg)
		for _, owner := range append([]int{0, api.MaxNum + 1}, outside...) {
			refused(t, "no owner", d, owner, rising(n), filled(size, 1), api.ErrArg)
		}
	}
	// The most bytes are not too long, but they take more blocks than any disk has.
	refused(t, "the most", d, 3, rising(1084), filled(api.MaxBytes, 7), api.ErrArg)
}

// rising answers n blocks from 2 on.
func rising(n int) []int {
	l := make([]int, n)
	for i := range l {
		l[i] = 2 + i
	}
	return l
}

// 10.1: a place that is no block from 2 on, or is there twice, at any place of the list.
func TestWriteToNoPlaces(t *testing.T) {
	for _, blocks := range []int{16, 17, 256, 1024} {
		d := loaded(t, blocks, 8)
		wrong := append([]int{0, 1, blocks, blocks + 1, 2 * blocks, 65535, 65536, 65538, 65536 + blocks}, outside...)
		for n := 1; n <= 5; n++ {
			text := filled(n*242, n)
			for i := range n {
				for _, place := range wrong {
					places := rising(n)
					places[i] = place
					refused(t, "no block", d, 3, places, text, api.ErrArg)
				}
				for k := range i {
					places := rising(n)
					slices.Reverse(places)
					places[i] = places[k]
					refused(t, "twice", d, 3, places, text, api.ErrArg)
				}
			}
			refused(t, "all the same", d, 3, slices.Repeat([]int{9}, n+1), filled(n*242+1, n), api.ErrArg)
		}
	}
	refused(t, "past this disk, though not past others", loaded(t, 16, 8), 3, []int{16, 17}, filled(300, 1), api.ErrArg)
}

// 10.1: a disk that is off is told of behind all else.
func TestWriteWhereOff(t *testing.T) {
	d := loaded(t, 16, 9)
	d.Write(3, filled(256, 1))
	d.Stop(0)
	d.Flush()
	refused(t, "off", d, 3, []int{9, 5}, filled(300, 1), api.ErrOff)
	refused(t, "off, and too long", d, 3, []int{9, 5}, filled(api.MaxBytes+1, 1), api.ErrLong)
	refused(t, "off, and no text", d, 3, []int{9}, nil, api.ErrArg)
	refused(t, "off, and no owner", d, 0, []int{9}, filled(1, 1), api.ErrArg)
	refused(t, "off, and no place", d, 3, []int{1}, filled(1, 1), api.ErrArg)
	refused(t, "off, and no block", d, 3, []int{16}, filled(1, 1), api.ErrArg)
	refused(t, "off, and twice", d, 3, []int{9, 9}, filled(300, 1), api.ErrArg)
	d.Crash(nil)
	written(t, d, 3, []int{9, 5}, filled(300, 1))
}

// On a disk that is none: ErrClosed, ahead of all else.
func TestNil(t *testing.T) {
	for _, size := range []int{0, 1, 300, api.MaxBytes + 1} {
		for _, places := range [][]int{nil, {0}, {9}, {9, 5}, {9, 9}} {
			for _, owner := range []int{-1, 0, 3} {
				if p, e := chain.Write(nil, owner, places, filled(size, 1)); e != api.ErrClosed || p != (api.Part{}) {
					t.Fatalf("Write(nil, %d, %v, %d bytes): %+v, %d", owner, places, size, p, e)
				}
			}
		}
	}
	for _, p := range []api.Part{{}, {First: 9, Size: 300, Owner: 3}, {First: -1, Size: -1, Owner: -1}, {First: 16, Size: 1, Owner: 1}} {
		if text, places, e := chain.Read(nil, p); e != api.ErrClosed || len(text) != 0 || len(places) != 0 {
			t.Fatalf("Read(nil, %+v): %d bytes, %v, %d", p, len(text), places, e)
		}
	}
}

// R4: what is handed in is left as it was, and so is the room behind it; what is handed out shares nothing with it, nor with the disk.
func TestNothingIsShared(t *testing.T) {
	d := loaded(t, 16, 10)
	text, places := filled(485, 10), []int{9, 15, 2}
	textRoom, placesRoom := append(bytes.Clone(text), filled(300, 11)...), append(slices.Clone(places), 4, 5, 6)
	wasText, wasPlaces := bytes.Clone(textRoom), slices.Clone(placesRoom)
	p := written(t, d, 3, placesRoom[:3], textRoom[:485])
	if !bytes.Equal(textRoom, wasText) || !slices.Equal(placesRoom, wasPlaces) {
		t.Fatal("what was handed in has changed")
	}
	refused(t, "twice", d, 3, []int{9, 9}, textRoom[:300], api.ErrArg)
	unsorted := []int{15, 2, 15}
	refused(t, "twice", d, 3, unsorted, textRoom[:485], api.ErrArg)
	if !slices.Equal(unsorted, []int{15, 2, 15}) || !bytes.Equal(textRoom, wasText) {
		t.Fatal("what was refused has changed")
	}
	clear(textRoom)
	clear(placesRoom)
	reads(t, "what was handed in is cleared", d, p, text, places)

	got, blocks, _ := chain.Read(d, p)
	clear(got[:cap(got)])
	clear(blocks[:cap(blocks)])
	reads(t, "what was handed out is cleared", d, p, text, places)
	got, blocks, _ = chain.Read(d, p)
	for i := range 16 {
		d.Write(i, make([]byte, 256))
	}
	if !bytes.Equal(got, text) || !slices.Equal(blocks, places) {
		t.Fatal("what was handed out has changed with the disk")
	}
}
