package disk_test

import (
	"bytes"
	"math"
	"slices"
	"sync"
	"testing"

	"chantry/api"
	"chantry/disk"
)

const (
	size   = api.BlockSize
	sector = api.SectorSize
)

// far are numbers that no block has, and no disk has so many blocks: near and far, and such as seem right in fewer bits.
var far = []int{
	-1, -2, -15, -16, -17, -256, -1024, math.MinInt32, -1<<32 + 16, -1 << 32, math.MinInt + 16, math.MinInt,
	1025, 1026, 2048, 1 << 16, math.MaxInt32, 1 << 32, 1<<32 + 16, 1 << 56, 1<<56 + 16, 1 << 60, math.MaxInt - 1, math.MaxInt,
}

// filled answers n bytes of which each sector's differ from those of all sectors near it.
func filled(n, seed int) []byte {
	b := make([]byte, n)
	for i := range b {
		b[i] = byte(i*7 + i/sector*31 + i/size*11 + seed*53 + 1)
	}
	return b
}

func blank(t *testing.T, blocks int) *disk.Disk {
	t.Helper()
	d, e := disk.Blank(blocks)
	if e != api.OK || d == nil {
		t.Fatalf("Blank(%d): %v, %d", blocks, d, e)
	}
	return d
}

func loaded(t *testing.T, image []byte) *disk.Disk {
	t.Helper()
	d, e := disk.Load(image)
	if e != api.OK || d == nil {
		t.Fatalf("Load of %d: %v, %d", len(image), d, e)
	}
	return d
}

// answered fails unless a call was answered as is wanted.
func answered(t *testing.T, what string, got, want api.Errno) {
	t.Helper()
	if got != want {
		t.Fatalf("%s: %d, want %d", what, got, want)
	}
}

func read(t *testing.T, d *disk.Disk, n int) []byte {
	t.Helper()
	b, e := d.Read(n)
	answered(t, "Read", e, api.OK)
	if len(b) != size {
		t.Fatalf("Read(%d): %d bytes", n, len(b))
	}
	return b
}

// model is a disk as the document says it, slow and plain: all Writes since the last Flush, in a list.
type model struct {
	safe   []byte
	places []int
	texts  [][]byte
	off    bool
	stop   int // deeds till the power goes; -1: no Stop
	stat   api.Stat
}

func (m *model) clone() *model {
	c := *m
	c.safe = slices.Clone(m.safe)
	c.places = slices.Clone(m.places)
	c.texts = slices.Clone(m.texts)
	return &c
}

func (m *model) image() []byte {
	b := slices.Clone(m.safe)
	for i, n := range m.places {
		copy(b[n*size:(n+1)*size], m.texts[i])
	}
	return b
}

func (m *model) blocks() int { return len(m.safe) / size }

func (m *model) read(n int) ([]byte, api.Errno) {
	if m.off {
		return nil, api.ErrOff
	}
	if n < 0 || n >= m.blocks() {
		return nil, api.ErrBlock
	}
	m.stat.Reads++
	return m.image()[n*size : (n+1)*size], api.OK
}

// goes counts a deed, and tells whether the power goes at it.
func (m *model) goes() bool {
	if m.stop == 0 {
		m.off, m.stop = true, -1
		return true
	}
	if m.stop > 0 {
		m.stop--
	}
	return false
}

func (m *model) write(n int, b []byte) api.Errno {
	if m.off {
		return api.ErrOff
	}
	if n < 0 || n >= m.blocks() {
		return api.ErrBlock
	}
	if len(b) != size {
		return api.ErrSize
	}
	m.places, m.texts = append(m.places, n), append(m.texts, slices.Clone(b))
	if m.goes() {
		return api.ErrOff
	}
	m.stat.Writes++
	return api.OK
}

func (m *model) flush() api.Errno {
	if m.off || m.goes() {
		return api.ErrOff
	}
	m.safe, m.places, m.texts = m.image(), nil, nil
	m.stat.Flushes++
	return api.OK
}

func (m *model) crash(masks []int) {
	for i, n := range m.places {
		for k := range 4 {
			if i < len(masks) && uint(masks[i])&(1<<k) != 0 {
				copy(m.safe[n*size+k*sector:n*size+(k+1)*sector], m.texts[i][k*sector:])
			}
		}
	}
	m.places, m.texts, m.off, m.stop = nil, nil, false, -1
}

// check holds all that a disk tells, but for its blocks, against a model.
func (m *model) check(t *testing.T, d *disk.Disk) {
	t.Helper()
	if d.Blocks() != m.blocks() || d.Off() != m.off || d.Waits() != len(m.places) || d.Stat() != m.stat {
		t.Fatalf("%d blocks, off %t, %d wait, %v; want %d, %t, %d, %v",
			d.Blocks(), d.Off(), d.Waits(), d.Stat(), m.blocks(), m.off, len(m.places), m.stat)
	}
	if !bytes.Equal(d.Safe(), m.safe) {
		t.Fatal("Safe tells something else")
	}
	if !bytes.Equal(d.Image(), m.image()) {
		t.Fatal("Image tells something else")
	}
}

func modelOf(image []byte) *model {
	return &model{safe: slices.Clone(image), stop: -1}
}

// fresh fails unless a disk has just these bytes, all safe, and nothing was done to it.
func fresh(t *testing.T, d *disk.Disk, image []byte) {
	t.Helper()
	modelOf(image).check(t, d)
	for n := range len(image) / size {
		if !bytes.Equal(read(t, d, n), image[n*size:(n+1)*size]) {
			t.Fatalf("block %d has other bytes", n)
		}
	}
}

// 6.1: of 16 to 1024 blocks there is a disk of zero bytes, of no other number.
func TestBlank(t *testing.T) {
	for _, blocks := range []int{16, 17, 31, 32, 100, 255, 256, 1000, 1023, 1024} {
		fresh(t, blank(t, blocks), make([]byte, blocks*size))
	}
	for blocks := range 16 {
		refusedBlank(t, blocks)
	}
	for _, blocks := range far {
		refusedBlank(t, blocks)
	}
}

func refusedBlank(t *testing.T, blocks int) {
	t.Helper()
	if d, e := disk.Blank(blocks); d != nil || e != api.ErrArg {
		t.Errorf("Blank(%d): %v, %d", blocks, d, e)
	}
}

// 6.1: the bytes of 16 to 1024 whole blocks are a disk, all safe; no others are.
func TestLoad(t *testing.T) {
	for _, blocks := range []int{16, 17, 31, 32, 100, 255, 256, 1000, 1023, 1024} {
		image := filled(blocks*size, blocks)
		fresh(t, loaded(t, image), image)
	}
	wrong := []int{0, 1, 16, 255, 256, 257, 1024, 15 * size, 16*size - 1, 16*size + 1, 16*size + 64, 16*size + 255, 17*size - 1,
		1024*size - 1, 1024*size + 1, 1024*size + 255, 1025 * size, 2048 * size}
	for _, n := range wrong {
		if d, e := disk.Load(filled(n, 1)); d != nil || e != api.ErrSize {
			t.Errorf("Load of %d bytes: %v, %d", n, d, e)
		}
	}
	if d, e := disk.Load(nil); d != nil || e != api.ErrSize {
		t.Errorf("Load of nothing: %v, %d", d, e)
	}
}

// 6.2: a block is read as it was written last: be it safe, or waiting, or written twice; the other blocks stay.
func TestReadWhatWasWritten(t *testing.T) {
	for _, blocks := range []int{16, 1024} {
		image := filled(blocks*size, 1)
		d, m := loaded(t, image), modelOf(image)
		for step, n := range []int{0, blocks - 1, 5, 0, 5, 1, blocks - 2} {
			b := filled(size, 100+step)
			answered(t, "Write", d.Write(n, b), m.write(n, b))
			if !bytes.Equal(read(t, d, n), b) {
				t.Fatalf("block %d is not as it was written", n)
			}
			m.read(n)
			m.check(t, d)
			if step == 3 {
				answered(t, "Flush", d.Flush(), m.flush())
				if !bytes.Equal(read(t, d, n), b) {
					t.Fatalf("block %d is not as it was flushed", n)
				}
				m.read(n)
				m.check(t, d)
			}
		}
		for n := range blocks {
			want, _ := m.read(n)
			if !bytes.Equal(read(t, d, n), want) {
				t.Fatalf("block %d has other bytes", n)
			}
		}
	}
}

// 6.2: what is refused, and by what: a block that is not there ahead of bytes that are too few or too many; nothing changes.
func TestRefused(t *testing.T) {
	for _, blocks := range []int{16, 100, 1024} {
		image := filled(blocks*size, 2)
		d, m := loaded(t, image), modelOf(image)
		answered(t, "Stop", d.Stop(0), api.OK) // what is refused is no deed, so the power stays
		wrong := slices.Concat(far, []int{blocks, blocks + 1, blocks + 255, 1024})
		for _, n := range wrong {
			if b, e := d.Read(n); len(b) != 0 || e != api.ErrBlock {
				t.Fatalf("of %d, Read(%d): %d bytes, %d", blocks, n, len(b), e)
			}
			for _, k := range []int{0, 255, 256, 257} {
				answered(t, "Write of a block that is not there", d.Write(n, make([]byte, k)), api.ErrBlock)
			}
		}
		for _, k := range []int{0, 1, 63, 64, 255, 257, 512, 1024, 1<<16 + 256} {
			answered(t, "Write of too few or too many", d.Write(0, make([]byte, k)), api.ErrSize)
			answered(t, "Write of too few or too many", d.Write(blocks-1, make([]byte, k)), api.ErrSize)
		}
		answered(t, "Write of none", d.Write(0, nil), api.ErrSize)
		for _, n := range []int{-1, -2, -1024, math.MinInt32, -1 << 32, math.MinInt} {
			answered(t, "Stop", d.Stop(n), api.ErrArg)
		}
		m.check(t, d)
		answered(t, "Flush", d.Flush(), api.ErrOff) // nor did the Stops that were refused take the place of the one ahead
	}
}

// 6.2: behind Stop of n, n deeds are done, and the next one is answered ErrOff, whatever they are; a Write's bytes wait all the same.
func TestStop(t *testing.T) {
	image := filled(16*size, 3)
	for stop := range 7 {
		for kinds := range 1 << 8 {
			d, m := loaded(t, image), modelOf(image)
			answered(t, "Stop", d.Stop(stop), api.OK)
			m.stop = stop
			for i := range 8 {
				b := filled(size, i)
				var got, want api.Errno
				if kinds>>i&1 == 1 {
					got, want = d.Write(i, b), m.write(i, b)
				} else {
					got, want = d.Flush(), m.flush()
				}
				if (want == api.OK) != (i < stop) {
					t.Fatalf("the model is wrong: Stop(%d), deed %d: %d", stop, i, want)
				}
				answered(t, "a deed", got, want)
			}
			m.check(t, d)
			d.Crash([]int{15, 15, 1})
			m.crash([]int{15, 15, 1})
			m.check(t, d)
		}
	}
}

// 6.2: deeds that are refused are none that Stop counts, nor is a Read.
func TestStopCountsDeedsAlone(t *testing.T) {
	d := blank(t, 16)
	answered(t, "Stop", d.Stop(2), api.OK)
	between := func() {
		t.Helper()
		answered(t, "Write", d.Write(16, make([]byte, size)), api.ErrBlock)
		answered(t, "Write", d.Write(-1, make([]byte, size)), api.ErrBlock)
		answered(t, "Write", d.Write(0, make([]byte, size-1)), api.ErrSize)
		read(t, d, 0)
		d.Read(16)
		d.Image()
		d.Safe()
		d.Clone()
	}
	between()
	answered(t, "Flush", d.Flush(), api.OK)
	between()
	answered(t, "Write", d.Write(1, filled(size, 1)), api.OK)
	between()
	if d.Off() {
		t.Fatal("off too soon")
	}
	answered(t, "Write", d.Write(2, filled(size, 2)), api.ErrOff)
	if !d.Off() || d.Waits() != 2 {
		t.Fatalf("off %t, %d wait", d.Off(), d.Waits())
	}
}

// 6.2: another Stop takes the place of the one ahead; one beyond all deeds is never reached.
func TestStopAgain(t *testing.T) {
	b := filled(size, 4)
	for _, first := range []int{0, 1, 3, 50, math.MaxInt32, math.MaxInt} {
		for second := range 4 {
			d := blank(t, 16)
			answered(t, "Stop", d.Stop(first), api.OK)
			answered(t, "Stop", d.Stop(second), api.OK)
			for range second {
				answered(t, "Write", d.Write(0, b), api.OK)
			}
			answered(t, "Write", d.Write(0, b), api.ErrOff)
		}
	}
	for _, n := range []int{1000, math.MaxInt32, 1 << 32, math.MaxInt - 1, math.MaxInt} {
		d := blank(t, 16)
		answered(t, "Stop", d.Stop(0), api.OK)
		answered(t, "Stop", d.Stop(n), api.OK)
		for i := range 300 {
			answered(t, "Write", d.Write(i%16, b), api.OK)
			answered(t, "Flush", d.Flush(), api.OK)
		}
	}
	d := blank(t, 16)
	answered(t, "Stop", d.Stop(3), api.OK)
	for range 100 { // put off again and again
		answered(t, "Flush", d.Flush(), api.OK)
		answered(t, "Write", d.Write(0, b), api.OK)
		answered(t, "Stop", d.Stop(2), api.OK)
	}
}

// 6.2, 6.3: a disk that is off refuses Reads, Writes, Flushes, ahead of all else, and tells the rest.
func TestOff(t *testing.T) {
	image := filled(16*size, 5)
	d, m := loaded(t, image), modelOf(image)
	answered(t, "Write", d.Write(1, filled(size, 6)), m.write(1, filled(size, 6)))
	answered(t, "Stop", d.Stop(0), api.OK)
	m.stop = 0
	answered(t, "Write", d.Write(2, filled(size, 7)), m.write(2, filled(size, 7)))
	m.check(t, d)
	for _, n := range []int{0, 2, 15, 16, -1, math.MaxInt} {
		if b, e := d.Read(n); len(b) != 0 || e != api.ErrOff {
			t.Fatalf("Read(%d): %d bytes, %d", n, len(b), e)
		}
		answered(t, "Write", d.Write(n, filled(size, 1)), api.ErrOff)
		answered(t, "Write of none", d.Write(n, nil), api.ErrOff)
	}
	answered(t, "Flush", d.Flush(), api.ErrOff)
	answered(t, "Stop below 0", d.Stop(-1), api.ErrArg)
	answered(t, "Stop", d.Stop(1), api.OK)
	m.check(t, d)
	m.check(t, d.Clone())
	d.Crash([]int{0, 2})
	m.crash([]int{0, 2})
	m.check(t, d)
	for range 20 { // the Stop that came while it was off is forgotten, too
		answered(t, "Flush", d.Flush(), api.OK)
	}
}

// 6.3: each mask tells which sectors of its Write are new; without one, none are; bits above bit 3 count for nothing.
func TestCrashMasks(t *testing.T) {
	masks := []int{4, 8, -1, -2, -5, -16, -8, 16, 17, 31, 32, 1 << 20, 1<<31 + 6, 1 << 32, 1<<32 + 5, 1<<62 + 10, math.MaxInt, math.MaxInt - 3, math.MinInt, math.MinInt + 3}
	for mask := range 16 {
		masks = append(masks, mask)
	}
	image := filled(16*size, 6)
	for _, mask := range masks {
		for _, n := range []int{0, 7, 15} {
			d, b := loaded(t, image), filled(size, 90)
			answered(t, "Write", d.Write(n, b), api.OK)
			d.Crash([]int{mask})
			want := slices.Clone(image)
			for k, bit := range []uint{1, 2, 4, 8} {
				if uint(mask)&bit != 0 {
					copy(want[n*size+k*sector:], b[k*sector:(k+1)*sector])
				}
			}
			fresh := modelOf(want)
			fresh.stat.Writes = 1
			fresh.check(t, d)
			if !bytes.Equal(read(t, d, n), want[n*size:(n+1)*size]) {
				t.Fatalf("mask %d: block %d is read otherwise", mask, n)
			}
		}
	}
}

// 6.3: the document's example: a Write, a Crash of 5: the sectors 0 and 2 are new.
func TestCrashExample(t *testing.T) {
	d := blank(t, 16)
	answered(t, "Write", d.Write(3, bytes.Repeat([]byte{7}, size)), api.OK)
	d.Crash([]int{5})
	want := slices.Concat(bytes.Repeat([]byte{7}, 64), make([]byte, 64), bytes.Repeat([]byte{7}, 64), make([]byte, 64))
	if got := read(t, d, 3); !bytes.Equal(got, want) {
		t.Fatalf("%v", got)
	}
}

// 6.3: masks are told off to the Writes from the first one on: of no masks, fewer, as many and more than wait, and of Writes to one block.
func TestCrashOrder(t *testing.T) {
	image := filled(16*size, 7)
	lists := [][]int{
		nil, {}, {15}, {1}, {0, 15}, {1, 2, 4, 8, 1, 2}, {15, 15, 15, 15, 15, 15}, {15, 0, 15, 0, 15, 0}, {8, 4, 2, 1, 8, 4}, {3, 6, 12, 9, 3, 6},
		{0, 0, 0, 0, 0, 15}, {5, 10, 5, 10, 5, 10, 15, 15, 15}, {-1, -2, -3, -4, -5, -6, -7}, make([]int, 100), {0, 0, 0, 0, 0, 0, 15},
	}
	for _, places := range [][]int{{3, 3, 3, 3, 3, 3}, {0, 1, 2, 3, 4, 5}, {15, 0, 15, 0, 15, 0}, {9, 9, 8, 9, 8, 8}} {
		for _, masks := range lists {
			d, m := loaded(t, image), modelOf(image)
			for i, n := range places {
				b := filled(size, 20+i)
				answered(t, "Write", d.Write(n, b), m.write(n, b))
			}
			m.check(t, d)
			d.Crash(masks)
			m.crash(masks)
			m.check(t, d)
			d.Crash([]int{15, 15, 15}) // nothing waits: nothing changes
			m.check(t, d)
		}
	}
}

// 6.3: behind a crash nothing waits, so no later mask, or Flush, brings back what was lost.
func TestLostStaysLost(t *testing.T) {
	image := filled(16*size, 8)
	d, m := loaded(t, image), modelOf(image)
	answered(t, "Write", d.Write(4, filled(size, 1)), api.OK)
	m.stat.Writes++
	d.Crash(nil)
	m.check(t, d)
	answered(t, "Flush", d.Flush(), m.flush())
	m.check(t, d)
	answered(t, "Write", d.Write(5, filled(size, 2)), m.write(5, filled(size, 2)))
	d.Crash([]int{6, 15})
	m.crash([]int{6, 15})
	m.check(t, d)
}

// 6.2, 6.3: a Flush of nothing is a deed that is answered OK; Safe is as after a Crash of no masks.
func TestFlush(t *testing.T) {
	d := blank(t, 16)
	answered(t, "Flush", d.Flush(), api.OK)
	answered(t, "Flush", d.Flush(), api.OK)
	if d.Stat() != (api.Stat{Flushes: 2}) {
		t.Fatalf("%v", d.Stat())
	}
	b := filled(size, 1)
	answered(t, "Write", d.Write(15, b), api.OK)
	if d.Waits() != 1 || bytes.Contains(d.Safe(), b) || !bytes.Contains(d.Image(), b) {
		t.Fatal("what was written is safe too soon, or is not read")
	}
	lost := d.Clone()
	lost.Crash(nil)
	if !bytes.Equal(lost.Image(), d.Safe()) {
		t.Fatal("Safe is not what a crash leaves")
	}
	answered(t, "Flush", d.Flush(), api.OK)
	if d.Waits() != 0 || !bytes.Equal(d.Safe(), d.Image()) || !bytes.HasSuffix(d.Safe(), b) {
		t.Fatal("what was flushed is not safe")
	}
	d.Crash(nil)
	if !bytes.HasSuffix(d.Image(), b) {
		t.Fatal("what was safe is lost")
	}
}

// 6.3: Stat counts what was answered OK alone; a crash does not begin it anew, a clone goes on from it.
func TestStat(t *testing.T) {
	d, b := blank(t, 16), filled(size, 1)
	for range 3 {
		read(t, d, 0)
	}
	d.Read(16)
	for range 5 {
		answered(t, "Write", d.Write(1, b), api.OK)
	}
	d.Write(16, b)
	d.Write(1, nil)
	answered(t, "Flush", d.Flush(), api.OK)
	want := api.Stat{Reads: 3, Writes: 5, Flushes: 1}
	d.Image()
	d.Safe()
	d.Stop(0)
	d.Write(2, b) // the power goes: it is not answered OK
	d.Write(3, b)
	d.Flush()
	d.Read(0)
	if d.Stat() != want {
		t.Fatalf("%v, want %v", d.Stat(), want)
	}
	d.Crash([]int{15})
	if d.Stat() != want {
		t.Fatalf("behind a crash: %v, want %v", d.Stat(), want)
	}
	d.Stop(0)
	d.Flush()
	d.Crash(nil)
	c := d.Clone()
	if c.Stat() != want {
		t.Fatalf("of a clone: %v, want %v", c.Stat(), want)
	}
	read(t, c, 0)
	answered(t, "Write", c.Write(0, b), api.OK)
	answered(t, "Flush", c.Flush(), api.OK)
	if d.Stat() != want || c.Stat() != (api.Stat{Reads: 4, Writes: 6, Flushes: 2}) {
		t.Fatalf("%v, of the clone %v", d.Stat(), c.Stat())
	}
}

// 6 (Ways): reads are counted, whoever reads beside others.
func TestReadsFromAnywhere(t *testing.T) {
	d := loaded(t, filled(64*size, 1))
	var wait sync.WaitGroup
	for range 8 {
		wait.Go(func() {
			for i := range 500 {
				d.Read(i % 64)
			}
		})
	}
	wait.Wait()
	if d.Stat() != (api.Stat{Reads: 4000}) {
		t.Fatalf("%v", d.Stat())
	}
}

// 6.3, R4: a slice that was handed in, or out, has no memory of the disk's.
func TestSharesNothing(t *testing.T) {
	image := filled(16*size, 9)
	d, m := loaded(t, image), modelOf(image)
	b := filled(size, 10)
	answered(t, "Write", d.Write(2, b), m.write(2, b))
	masks := []int{6, 1}
	spoil := func(l []byte) {
		for i := range l {
			l[i] ^= 0xff
		}
	}
	spoil(image)
	spoil(b)
	spoil(d.Image())
	spoil(d.Safe())
	spoil(read(t, d, 2))
	spoil(read(t, d, 3))
	m.stat.Reads += 2
	m.check(t, d)
	spoil(d.Clone().Image())
	d.Crash(masks)
	m.crash(masks)
	m.check(t, d)
	if !slices.Equal(masks, []int{6, 1}) {
		t.Fatal("masks were changed")
	}
	b = filled(size, 11)
	answered(t, "Write", d.Write(2, b), m.write(2, b))
	answered(t, "Flush", d.Flush(), m.flush())
	kept := slices.Clone(b)
	spoil(d.Safe())
	spoil(d.Image())
	spoil(read(t, d, 2))
	m.stat.Reads++
	m.check(t, d)
	if !bytes.Equal(b, kept) {
		t.Fatal("what was handed in was changed")
	}
	got := read(t, d, 2)
	answered(t, "Write", d.Write(2, filled(size, 12)), api.OK)
	if !bytes.Equal(got, kept) {
		t.Fatal("what was handed out has changed")
	}
}

// 6.3: a clone is a disk of its own, be it on, off, or about to be; what is done to the one is not done to the other.
func TestClone(t *testing.T) {
	image := filled(16*size, 13)
	for stop := -1; stop < 5; stop++ {
		d, m := loaded(t, image), modelOf(image)
		answered(t, "Write", d.Write(1, filled(size, 1)), m.write(1, filled(size, 1)))
		answered(t, "Flush", d.Flush(), m.flush())
		if stop >= 0 {
			d.Stop(stop)
			m.stop = stop
		}
		answered(t, "Write", d.Write(2, filled(size, 2)), m.write(2, filled(size, 2)))
		answered(t, "Write", d.Write(2, filled(size, 3)), m.write(2, filled(size, 3)))
		c, n := d.Clone(), m.clone()
		for i := range 4 {
			answered(t, "the clone's Write", c.Write(3+i, filled(size, 4)), n.write(3+i, filled(size, 4)))
			n.check(t, c)
			m.check(t, d)
		}
		c.Crash([]int{9, 6, 15})
		n.crash([]int{9, 6, 15})
		n.check(t, c)
		m.check(t, d)
		answered(t, "Write", d.Write(2, filled(size, 5)), m.write(2, filled(size, 5)))
		answered(t, "Flush", d.Flush(), m.flush())
		n.check(t, c)
		m.check(t, d)
		d.Crash([]int{1, 2, 4, 8})
		m.crash([]int{1, 2, 4, 8})
		n.check(t, c)
		m.check(t, d)
	}
}

// 6.3: a clone's Writes wait apart from those of the disk that it was made of, however many waited.
func TestCloneWaitsApart(t *testing.T) {
	all := []int{15, 15, 15, 15, 15, 15, 15, 15, 15, 15, 15, 15}
	for waits := range 10 {
		d, m := blank(t, 16), modelOf(make([]byte, 16*size))
		for i := range waits {
			answered(t, "Write", d.Write(i, filled(size, i)), m.write(i, filled(size, i)))
		}
		c, n := d.Clone(), m.clone()
		for i := range 2 {
			answered(t, "the clone's Write", c.Write(i, filled(size, 50+i)), n.write(i, filled(size, 50+i)))
			answered(t, "Write", d.Write(i, filled(size, 60+i)), m.write(i, filled(size, 60+i)))
		}
		c.Crash(all)
		n.crash(all)
		n.check(t, c)
		d.Crash(all)
		m.crash(all)
		m.check(t, d)
	}
}

// 6.1 to 6.4: of deeds of all kinds in any order a disk tells the same as a plain list of Writes.
func TestAgainstModel(t *testing.T) {
	n := uint64(1)
	next := func(below int) int {
		n = n*6364136223846793005 + 1442695040888963407
		return int(n>>33) % below
	}
	for round := range 60 {
		blocks := 16 + next(6)
		image := filled(blocks*size, round)
		d, m := loaded(t, image), modelOf(image)
		for range 120 {
			place, b := next(blocks+2)-1, filled(size, next(250))
			switch next(12) {
			case 0, 1, 2, 3:
				answered(t, "Write", d.Write(place, b), m.write(place, b))
			case 4:
				answered(t, "Flush", d.Flush(), m.flush())
			case 5, 6, 7:
				got, e := d.Read(place)
				want, f := m.read(place)
				if !bytes.Equal(got, want) || e != f {
					t.Fatalf("Read(%d): %d bytes, %d, want %d, %d", place, len(got), e, len(want), f)
				}
			case 8:
				stop := next(9)
				answered(t, "Stop", d.Stop(stop), api.OK)
				m.stop = stop
				if m.off {
					m.stop = -1
				}
			case 9:
				masks := make([]int, next(8))
				for i := range masks {
					masks[i] = next(64) - 32
				}
				d.Crash(masks)
				m.crash(masks)
			case 10:
				d = d.Clone()
			case 11:
				answered(t, "Write", d.Write(place, b[1:]), m.write(place, b[1:]))
			}
			m.check(t, d)
		}
	}
}

// 6.4: behind any crash what is safe, and was not written since, is there; each other sector is as it was, or as one of its Writes said it.
func TestWhatLasts(t *testing.T) {
	image := filled(16*size, 14)
	for seed := range 200 {
		d := loaded(t, image)
		said := map[int][][]byte{} // what may be there, of each sector
		for s := range 16 * 4 {
			said[s] = [][]byte{image[s*sector : (s+1)*sector]}
		}
		masks := make([]int, 5)
		for i := range 5 {
			place, b := (seed*7+i*i*3)%5+10, filled(size, 40+seed+i)
			answered(t, "Write", d.Write(place, b), api.OK)
			for k := range 4 {
				s := place*4 + k
				said[s] = append(said[s], b[k*sector:(k+1)*sector])
			}
			masks[i] = seed * (i*5 + 3)
		}
		d.Crash(masks)
		got := d.Image()
		for s, l := range said {
			if !slices.ContainsFunc(l, func(b []byte) bool { return bytes.Equal(b, got[s*sector:(s+1)*sector]) }) {
				t.Fatalf("sector %d is as nobody said it", s)
			}
		}
		if !bytes.Equal(got, d.Safe()) {
			t.Fatal("behind a crash not all is safe")
		}
	}
}

// 6.3, R1: on nil every call answers that there is nothing, and none panics.
func TestNil(t *testing.T) {
	var d *disk.Disk
	if b, e := d.Read(0); len(b) != 0 || e != api.ErrClosed {
		t.Errorf("Read: %v, %d", b, e)
	}
	answered(t, "Read", second(d.Read(-1)), api.ErrClosed)
	answered(t, "Write", d.Write(0, make([]byte, size)), api.ErrClosed)
	answered(t, "Write of none", d.Write(-1, nil), api.ErrClosed)
	answered(t, "Flush", d.Flush(), api.ErrClosed)
	answered(t, "Stop", d.Stop(0), api.ErrClosed)
	answered(t, "Stop below 0", d.Stop(-1), api.ErrClosed)
	d.Crash(nil)
	d.Crash([]int{15})
	if d.Blocks() != 0 || !d.Off() || d.Waits() != 0 || len(d.Image()) != 0 || len(d.Safe()) != 0 || d.Stat() != (api.Stat{}) || d.Clone() != nil {
		t.Error("nil tells something")
	}
}

func second(_ []byte, e api.Errno) api.Errno { return e }
