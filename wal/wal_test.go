package wal_test

import (
	"bytes"
	"encoding/hex"
	"math"
	"slices"
	"strings"
	"testing"

	"chantry/api"
	"chantry/crc"
	"chantry/disk"
	"chantry/wal"
)

// far are ints that no block, no number of blocks and no epoch has: near and far, and such as seem right in fewer bits, or in a sum that wraps round.
var far = []int{
	-1, -2, -15, -16, -256, -65536, -api.MaxNum, math.MinInt32, -1<<32 + 1, -1<<32 + 3, -1 << 32, math.MinInt + 1, math.MinInt + 3, math.MinInt,
	1 << 31, 1<<31 + 1, 1<<31 + 3, 1<<32 - 1, 1 << 32, 1<<32 + 1, 1<<32 + 3, 1 << 40, 1<<56 + 1, 1 << 62, math.MaxInt - 3, math.MaxInt - 1, math.MaxInt,
}

// filled answers n bytes, none of them zero, of which each sector's and each block's differ from those near it.
func filled(n, seed int) []byte {
	b := make([]byte, n)
	for i := range b {
		b[i] = byte(1 + (i*7+i/48*5+i/64*3+i/256*11+seed*53)%255)
	}
	return b
}

// blank answers a disk of zero bytes.
func blank(t *testing.T, blocks int) *disk.Disk {
	t.Helper()
	return holding(t, make([]byte, blocks*256))
}

// strewn answers a disk of bytes that are no sector's.
func strewn(t *testing.T, blocks int) *disk.Disk {
	t.Helper()
	return holding(t, filled(blocks*256, blocks))
}

func holding(t *testing.T, image []byte) *disk.Disk {
	t.Helper()
	d, e := disk.Load(image)
	if e != api.OK {
		t.Fatalf("Load of %d bytes: %d", len(image), e)
	}
	return d
}

// one answers a sector's 64 bytes as the document says them, shift by shift.
func one(kind, epoch, number, left int, data []byte) []byte {
	b := make([]byte, 60)
	b[0], b[1], b[2], b[3] = byte(kind), byte(len(data)), byte(left), byte(left>>8)
	for i := range 4 {
		b[4+i], b[8+i] = byte(epoch>>(8*i)), byte(number>>(8*i))
	}
	copy(b[12:], data)
	return crc.Seal(b)
}

// whole answers the bytes of a record's sectors, of which the first one has this number.
func whole(epoch, number int, text []byte) []byte {
	var b []byte
	kind := 2
	for i, left := 0, (len(text)-1)/48; left >= 0; i, left = i+1, left-1 {
		n := min(48, len(text))
		b = append(b, one(kind, epoch, number+i, left, text[:n])...)
		text, kind = text[n:], 3
	}
	return b
}

// write is a deed that a log is to do.
type write struct {
	block int
	bytes []byte
}

// model is a log as the document says it, slow and plain, and the disk on which it stands.
type model struct {
	image       []byte
	from, size  int
	used, epoch int
	texts       [][]byte
	stat        api.Stat
}

// writes answers the writes that an Append of a text is to do, in order.
func (m *model) writes(text []byte) []write {
	area := m.image[m.from*256 : m.from*256+m.size*64]
	b := append(bytes.Clone(area[:m.used*64]), whole(m.epoch, m.used, text)...)
	for len(b)%256 != 0 {
		b = append(b, 0)
	}
	var l []write
	for n := m.used / 4; n*256 < len(b); n++ {
		l = append(l, write{m.from + n, b[n*256 : n*256+256]})
	}
	return l
}

// append does in the model what an Append is to do.
func (m *model) append(text []byte) {
	for _, w := range m.writes(text) {
		copy(m.image[w.block*256:], w.bytes)
		m.stat.Writes++
	}
	m.stat.Flushes++
	m.used += (len(text) + 47) / 48
	m.texts = append(m.texts, text)
}

// check fails unless a log, and its disk, on which nothing waits, are as the model says.
func (m *model) check(t *testing.T, why string, d *disk.Disk, l *wal.Log) {
	t.Helper()
	if l.Used() != m.used || l.Room() != m.size-m.used || l.Dead() {
		t.Fatalf("%s: Used %d, Room %d, Dead %t, want %d, %d", why, l.Used(), l.Room(), l.Dead(), m.used, m.size-m.used)
	}
	if !bytes.Equal(d.Image(), m.image) || !bytes.Equal(d.Safe(), m.image) || d.Waits() != 0 {
		t.Fatalf("%s: the disk is not as it should be: %d wait", why, d.Waits())
	}
	if stat := d.Stat(); stat.Writes != m.stat.Writes || stat.Flushes != m.stat.Flushes {
		t.Fatalf("%s: %+v, want %+v", why, stat, m.stat)
	}
}

// opens fails unless a log is opened, with just these records, of so many sectors in all, and the disk is left as it was.
func opens(t *testing.T, why string, d *disk.Disk, from, blocks, least, most int, want [][]byte) *wal.Log {
	t.Helper()
	image, waits, stat := d.Image(), d.Waits(), d.Stat()
	l, texts, e := wal.Open(d, from, blocks, least, most)
	if e != api.OK || l == nil || !same(texts, want) {
		t.Fatalf("%s: Open(%d, %d, %d, %d): %d records, %d, want %d", why, from, blocks, least, most, len(texts), e, len(want))
	}
	used := 0
	for _, text := range want {
		used += (len(text) + 47) / 48
	}
	if l.Used() != used || l.Room() != blocks*4-used || l.Dead() {
		t.Fatalf("%s: opened: Used %d, Room %d, Dead %t, want %d", why, l.Used(), l.Room(), l.Dead(), used)
	}
	now := d.Stat()
	if !bytes.Equal(d.Image(), image) || d.Waits() != waits || now.Writes != stat.Writes || now.Flushes != stat.Flushes || now.Reads-stat.Reads > blocks {
		t.Fatalf("%s: Open has done %+v, ahead of it %+v", why, now, stat)
	}
	return l
}

func same(a, b [][]byte) bool { return slices.EqualFunc(a, b, bytes.Equal) }

// begun answers a log of an area without records, and a model of it.
func begun(t *testing.T, d *disk.Disk, from, blocks, least, most int) (*wal.Log, *model) {
	t.Helper()
	l := opens(t, "an area without records", d, from, blocks, least, most, nil)
	m := &model{image: d.Image(), from: from, size: blocks * 4, epoch: most, stat: d.Stat()}
	m.check(t, "begun", d, l)
	return l, m
}

// appends fails unless an Append is done just as the model says.
func appends(t *testing.T, why string, d *disk.Disk, l *wal.Log, m *model, text []byte) {
	t.Helper()
	if e := l.Append(text); e != api.OK {
		t.Fatalf("%s: Append of %d bytes at %d: %d", why, len(text), m.used, e)
	}
	m.append(text)
	m.check(t, why, d, l)
}

func answered(t *testing.T, what string, got, want api.Errno) {
	t.Helper()
	if got != want {
		t.Fatalf("%s: %d, want %d", what, got, want)
	}
}

// 13: the document's example, and the bytes of what is appended, to the letter.
func TestExample(t *testing.T) {
	d := blank(t, 16)
	l, m := begun(t, d, 2, 3, 1, 5)
	appends(t, "49 bytes", d, l, m, bytes.Repeat([]byte{7}, 49))
	if l.Used() != 2 || l.Room() != 10 {
		t.Fatalf("Used %d, Room %d", l.Used(), l.Room())
	}
	first, e := hex.DecodeString("02" + "30" + "0100" + "05000000" + "00000000" + strings.Repeat("07", 48))
	second, f := hex.DecodeString("03" + "01" + "0000" + "05000000" + "01000000" + "07" + strings.Repeat("00", 47))
	if e != nil || f != nil {
		t.Fatal(e, f)
	}
	want := slices.Concat(make([]byte, 512), crc.Seal(first), crc.Seal(second), make([]byte, 128), make([]byte, 13*256))
	if !bytes.Equal(d.Image(), want) {
		t.Fatalf("%x", d.Image()[512:768])
	}
}

// 13.2: an area of zero bytes, or of any that are no sector's, has no records, and is left as it is; from one block on to all of a disk's.
func TestOpenOfNoRecords(t *testing.T) {
	for _, blocks := range []int{16, 17, 1024} {
		for _, area := range [][2]int{{0, 1}, {0, 2}, {2, 3}, {blocks - 1, 1}, {blocks - 2, 2}, {1, blocks - 1}, {0, blocks - 1}, {0, blocks}} {
			begun(t, blank(t, blocks), area[0], area[1], 1, 1)
			begun(t, strewn(t, blocks), area[0], area[1], 1, api.MaxNum)
		}
	}
}

// 13.2: blocks that are not the disk's, or none, and epochs that may not be, are ErrArg, whatever else there is.
func TestOpenOfWrongArguments(t *testing.T) {
	for _, size := range []int{16, 20, 1024} {
		d := strewn(t, size)
		refused := func(from, blocks, least, most int) {
			t.Helper()
			stat := d.Stat()
			if l, texts, e := wal.Open(d, from, blocks, least, most); e != api.ErrArg || l != nil || len(texts) != 0 || d.Stat() != stat {
				t.Fatalf("of %d blocks: Open(%d, %d, %d, %d): %v, %d, %d", size, from, blocks, least, most, l, len(texts), e)
			}
		}
		for _, n := range append([]int{size, size + 1, 2 * size}, far...) {
			for _, other := range []int{0, 1, 2, size - 1, size, size + 1, math.MaxInt, math.MinInt, -n} {
				refused(n, other, 1, 1)
				refused(n, -other, 1, 1)
			}
		}
		for from := range size {
			for _, blocks := range append([]int{0, size - from + 1, size - from + 2, size + 1}, far...) {
				refused(from, blocks, 1, 1)
			}
		}
		for _, n := range far {
			refused(2, 3, n, 1)
			refused(2, 3, n, api.MaxNum)
			refused(2, 3, n, n)
			refused(2, 3, n, math.MaxInt)
			refused(2, 3, 1, n)
			refused(2, 3, api.MaxNum, n)
		}
		for _, l := range [][2]int{{0, 0}, {0, 1}, {0, 5}, {0, api.MaxNum}, {1, 0}, {2, 1}, {5, 4}, {api.MaxNum, api.MaxNum - 1}, {api.MaxNum, 1}, {1, api.MaxNum + 1}, {api.MaxNum + 1, api.MaxNum + 1}} {
			refused(2, 3, l[0], l[1])
		}
		for _, l := range [][2]int{{1, 1}, {1, 2}, {1, api.MaxNum}, {5, 5}, {5, 6}, {api.MaxNum - 1, api.MaxNum}, {api.MaxNum, api.MaxNum}} {
			begun(t, d, 2, 3, l[0], l[1])
		}
	}
}

// 13.3: one behind the other, texts are appended as the document says it, at each place of a block, whatever stood there; nothing else is touched.
func TestAppend(t *testing.T) {
	for _, size := range []int{1, 2, 47, 48, 49, 95, 96, 97, 144, 145, 191, 192, 193, 239, 240, 241, 384, 385, 600} {
		for _, ahead := range [][]int{nil, {1}, {48}, {49}, {1, 1}, {97}, {1, 48, 1}, {192}, {1, 1, 1, 1}, {193}, {20, 193}, {300, 20, 40}, {384}, {385, 1}} {
			for _, d := range []*disk.Disk{blank(t, 16), strewn(t, 16)} {
				l, m := begun(t, d, 3, 8, 2, 7)
				for i, n := range ahead {
					appends(t, "ahead", d, l, m, filled(n, i))
				}
				appends(t, "appended", d, l, m, filled(size, 9))
				appends(t, "behind it", d, l, m, filled(50, 10))
			}
		}
	}
}

// 13.3: the sectors that stood behind the text in its last block become zero bytes, also those of an older life's records.
func TestAppendOverRecords(t *testing.T) {
	for size := 1; size < 16*48; size += 23 {
		d := strewn(t, 16)
		l, m := begun(t, d, 4, 5, 1, 1)
		for i := range 20 {
			appends(t, "of an older life", d, l, m, filled(48, i))
		}
		l = opens(t, "of a newer life", d, 4, 5, 2, 2, nil)
		m = &model{image: d.Image(), from: 4, size: 20, epoch: 2, stat: d.Stat()}
		appends(t, "over it", d, l, m, filled(size, 20))
		appends(t, "and again", d, l, m, filled(1, 21))
	}
}

// 13.1, 13.2, 13.4: opened anew the records are those that were appended, in order, whatever epochs up to the first one's are asked for; and what is appended then goes on behind them.
func TestOpenAnew(t *testing.T) {
	d := strewn(t, 30)
	_, m := begun(t, d, 5, 25, 3, 3)
	for i, size := range []int{1, 48, 49, 300, 2, 3, 193, 192, 191, 97, 48, 96, 5, 144, 1, 1, 240} {
		for _, least := range []int{1, 2, 3} {
			for _, most := range []int{m.epoch, m.epoch + 1, api.MaxNum} {
				opens(t, "anew", d, 5, 25, least, most, m.texts)
			}
		}
		m.epoch += i % 3 // each opening is of the epoch that it writes
		l := opens(t, "to go on", d, 5, 25, 1+i%3, m.epoch, m.texts)
		m.stat = d.Stat()
		appends(t, "by a log that was opened anew", d, l, m, filled(size, i))
		appends(t, "by the same log", d, l, m, filled(20, i))
	}
	opens(t, "at the end", d, 5, 25, 3, m.epoch, m.texts)
}

// 13.2, 13.3: an area is filled up to its last sector, and no further: an area of one block, and of all.
func TestFull(t *testing.T) {
	for _, area := range [][3]int{{16, 0, 1}, {16, 15, 1}, {16, 0, 16}, {17, 2, 4}, {1024, 1, 2}, {1024, 0, 1024}} {
		for _, first := range []int{0, 1, 100, 192, 193} {
			d := strewn(t, area[0])
			l, m := begun(t, d, area[1], area[2], 1, 1)
			full := func(size int) {
				t.Helper()
				stat := d.Stat()
				if e := l.Append(filled(size, 3)); e != api.ErrFull || d.Stat() != stat {
					t.Fatalf("Append of %d bytes where the Room is %d: %d", size, l.Room(), e)
				}
				m.check(t, "refused", d, l)
			}
			if n := (first + 47) / 48; n > 0 && n <= l.Room() {
				appends(t, "first", d, l, m, filled(first, 1))
			}
			room := l.Room()
			if room > 0 {
				for _, size := range []int{room*48 + 1, room*48 + 48, room*48 + 49, room * 96, api.MaxBytes, 65536*48 + 1} {
					full(size)
				}
				appends(t, "just the Room", d, l, m, filled(room*48-area[0]%48, 2))
			}
			if l.Room() != 0 || l.Used() != area[2]*4 {
				t.Fatalf("Room %d, Used %d", l.Room(), l.Used())
			}
			full(1)
			full(48)
			full(300)
			answered(t, "no text, where there is no Room", l.Append(nil), api.ErrArg)
			opens(t, "full", d, area[1], area[2], 1, 1, m.texts)
			l = opens(t, "full", d, area[1], area[2], 1, 9, m.texts)
			full(1)
		}
	}
}

// 13.3: sector by sector an area is filled, and Room goes down.
func TestFillBySectors(t *testing.T) {
	d := blank(t, 16)
	l, m := begun(t, d, 2, 3, 1, 1)
	for i := range 12 {
		if l.Room() != 12-i || l.Used() != i {
			t.Fatalf("Room %d, Used %d, want %d, %d", l.Room(), l.Used(), 12-i, i)
		}
		answered(t, "one sector more than there is room for", l.Append(filled((12-i)*48+1, i)), api.ErrFull)
		appends(t, "a sector", d, l, m, filled(1+4*i, i))
	}
	answered(t, "full", l.Append([]byte("x")), api.ErrFull)
	m.check(t, "full", d, l)
}

// 13.3: an empty text is ErrArg, ahead of anything that the disk refuses; then nothing is done.
func TestAppendOfNothing(t *testing.T) {
	d := blank(t, 16)
	l, m := begun(t, d, 2, 3, 1, 1)
	for range 3 {
		answered(t, "nil", l.Append(nil), api.ErrArg)
		answered(t, "no bytes", l.Append([]byte{}), api.ErrArg)
		m.check(t, "refused", d, l)
		appends(t, "between", d, l, m, filled(60, 1))
	}
}

// 13.3: behind a Turn what is written has that epoch; what was written keeps its own.
func TestTurn(t *testing.T) {
	d := strewn(t, 16)
	l, m := begun(t, d, 2, 6, 3, 3)
	appends(t, "of 3", d, l, m, filled(49, 1))
	for i, epoch := range []int{3, 4, 4, 9, 0x12345678, api.MaxNum - 1, api.MaxNum, api.MaxNum} {
		answered(t, "Turn", l.Turn(epoch), api.OK)
		m.check(t, "turned", d, l)
		m.epoch = epoch
		for _, wrong := range append([]int{0, 1, 2, epoch - 1}, far...) {
			answered(t, "Turn to a wrong epoch", l.Turn(wrong), api.ErrArg)
			m.check(t, "not turned", d, l)
		}
		appends(t, "turned", d, l, m, filled(20*i+1, i))
	}
	opens(t, "of all epochs", d, 2, 6, 3, api.MaxNum, m.texts)
	opens(t, "up to 9", d, 2, 6, 1, 9, m.texts[:5])
	opens(t, "up to 8", d, 2, 6, 1, 8, m.texts[:4])
	opens(t, "up to 3", d, 2, 6, 1, 3, m.texts[:2])
	opens(t, "from 4 on", d, 2, 6, 4, api.MaxNum, nil)
}

// 13.2, 13.3: what is opened writes of the epoch most, not of one that it has read, and is turned from there on alone.
func TestWritesOfMost(t *testing.T) {
	for _, most := range []int{3, 4, 70000, api.MaxNum} {
		d := blank(t, 16)
		l, m := begun(t, d, 2, 6, 3, 3)
		appends(t, "of 3", d, l, m, filled(49, 1))
		l, m.epoch = opens(t, "anew", d, 2, 6, 1, most, m.texts), most
		answered(t, "Turn to less", l.Turn(most-1), api.ErrArg)
		answered(t, "Reset to less", l.Reset(most-1), api.ErrArg)
		appends(t, "of most", d, l, m, filled(20, 2))
		answered(t, "Turn to the same", l.Turn(most), api.OK)
		appends(t, "of most", d, l, m, filled(90, 3))
	}
}

// 13.3: behind a Reset nothing is used, and no deed is done; what is appended begins at sector 0, and has that epoch.
func TestReset(t *testing.T) {
	for _, epoch := range []int{3, 4, 1000, api.MaxNum} {
		d := strewn(t, 16)
		l, m := begun(t, d, 2, 3, 3, 3)
		for i := range 5 {
			for _, wrong := range append([]int{0, 1, 2, m.epoch - 1}, far...) {
				answered(t, "Reset to a wrong epoch", l.Reset(wrong), api.ErrArg)
				m.check(t, "not reset", d, l)
			}
			answered(t, "Reset", l.Reset(epoch), api.OK)
			m.used, m.epoch, m.texts = 0, epoch, nil
			m.check(t, "reset", d, l)
			for k := range i + 1 {
				appends(t, "reset", d, l, m, filled(5*i+20*k+1, i))
			}
		}
		m.texts = nil
		answered(t, "Reset", l.Reset(epoch), api.OK)
		m.used = 0
		appends(t, "of all the area", d, l, m, filled(12*48, 9))
		answered(t, "Reset", l.Reset(epoch), api.OK)
		m.used = 0
		m.check(t, "reset, where it was full", d, l)
	}
}

// 13.1: what a Reset leaves counts by its epoch, if it stands just behind the end of what is newer.
func TestWhatAResetLeaves(t *testing.T) {
	d := blank(t, 16)
	l, m := begun(t, d, 2, 3, 4, 4)
	for i := range 12 {
		appends(t, "of 4", d, l, m, filled(40, i))
	}
	old := m.texts
	answered(t, "Reset", l.Reset(6), api.OK)
	opens(t, "nothing is newer", d, 2, 3, 4, 6, old)
	opens(t, "nothing is newer", d, 2, 3, 5, 6, nil)
	m.used, m.epoch, m.texts = 0, 6, nil
	for i := range 7 {
		appends(t, "of 6", d, l, m, filled(30, 20+i))
		behind := old[i+1:]
		if i%4 != 3 { // behind the newest are zero bytes
			behind = nil
		}
		opens(t, "from 6 on", d, 2, 3, 6, 6, m.texts)
		opens(t, "from 5 on", d, 2, 3, 5, 9, m.texts)
		opens(t, "from 4 on", d, 2, 3, 4, 6, slices.Concat(m.texts, behind))
		opens(t, "from 1 on", d, 2, 3, 1, api.MaxNum, slices.Concat(m.texts, behind))
		if i/4 > 0 {
			opens(t, "up to 5", d, 2, 3, 4, 5, nil)
		}
	}
}

// 13.2, 13.3: where the power is off, what the disk refuses is the answer, behind what is asked of the arguments; who asks nothing of the disk is not refused.
func TestWhereOff(t *testing.T) {
	d := strewn(t, 16)
	l, m := begun(t, d, 2, 3, 1, 5)
	appends(t, "ahead", d, l, m, filled(60, 1))
	d.Stop(0)
	d.Flush()
	for _, area := range [][2]int{{0, 1}, {2, 3}, {15, 1}, {0, 16}} {
		if l, texts, e := wal.Open(d, area[0], area[1], 1, 5); e != api.ErrOff || l != nil || len(texts) != 0 {
			t.Fatalf("Open: %v, %d, %d", l, len(texts), e)
		}
	}
	for _, wrong := range [][4]int{{2, 15, 1, 5}, {-1, 3, 1, 5}, {2, 0, 1, 5}, {2, 3, 0, 5}, {2, 3, 6, 5}, {2, 3, 1, api.MaxNum + 1}} {
		if l, texts, e := wal.Open(d, wrong[0], wrong[1], wrong[2], wrong[3]); e != api.ErrArg || l != nil || len(texts) != 0 {
			t.Fatalf("Open: %v, %d, %d", l, len(texts), e)
		}
	}
	answered(t, "no text", l.Append(nil), api.ErrArg)
	answered(t, "too long a text", l.Append(filled(10*48+1, 1)), api.ErrFull)
	answered(t, "Turn", l.Turn(6), api.OK)
	answered(t, "Turn to less", l.Turn(5), api.ErrArg)
	m.check(t, "off", d, l)
	answered(t, "Append", l.Append(filled(10, 1)), api.ErrOff)
	dead(t, "off", d, l, m.used, m.size)

	d = strewn(t, 16)
	l, m = begun(t, d, 2, 3, 1, 5)
	appends(t, "ahead", d, l, m, filled(60, 1))
	d.Stop(0)
	d.Flush()
	answered(t, "Reset", l.Reset(6), api.OK)
	m.used = 0
	m.check(t, "off, and reset", d, l)
	answered(t, "Append", l.Append(filled(10, 1)), api.ErrOff)
	dead(t, "off, and reset", d, l, 0, m.size)
}

// dead fails unless a log is dead, and none of its calls does anything; what it has used stays.
func dead(t *testing.T, why string, d *disk.Disk, l *wal.Log, used, size int) {
	t.Helper()
	image, waits, stat := d.Image(), d.Waits(), d.Stat()
	for _, text := range [][]byte{nil, {}, {1}, filled(60, 1), filled(65536*48+1, 1)} {
		answered(t, why+": Append by a dead log", l.Append(text), api.ErrClosed)
	}
	for _, epoch := range append([]int{0, 1, 2, 9, api.MaxNum}, far...) {
		answered(t, why+": Turn of a dead log", l.Turn(epoch), api.ErrClosed)
		answered(t, why+": Reset of a dead log", l.Reset(epoch), api.ErrClosed)
	}
	if !l.Dead() || l.Used() != used || l.Room() != size-used {
		t.Fatalf("%s: Dead %t, Used %d, Room %d, want %d", why, l.Dead(), l.Used(), l.Room(), used)
	}
	if !bytes.Equal(d.Image(), image) || d.Waits() != waits || d.Stat() != stat {
		t.Fatalf("%s: a dead log has done something", why)
	}
}

// 13.3: a log that is none answers ErrClosed, 0 and true; so does Open of no disk, ahead of all else.
func TestNil(t *testing.T) {
	var l *wal.Log
	for _, text := range [][]byte{nil, {}, {1}, filled(60, 1)} {
		answered(t, "Append", l.Append(text), api.ErrClosed)
	}
	for _, epoch := range append([]int{0, 1, api.MaxNum}, far...) {
		answered(t, "Turn", l.Turn(epoch), api.ErrClosed)
		answered(t, "Reset", l.Reset(epoch), api.ErrClosed)
	}
	if l.Room() != 0 || l.Used() != 0 || !l.Dead() {
		t.Fatalf("Room %d, Used %d, Dead %t", l.Room(), l.Used(), l.Dead())
	}
	for _, a := range [][4]int{{2, 3, 1, 1}, {0, 0, 0, 0}, {-1, 3, 1, 1}, {2, 0, 1, 1}, {0, 1, 0, 1}, {0, 1, 2, 1}, {0, 1, 1, math.MaxInt}, {math.MaxInt, math.MaxInt, 1, 1}} {
		if l, texts, e := wal.Open(nil, a[0], a[1], a[2], a[3]); e != api.ErrClosed || l != nil || len(texts) != 0 {
			t.Fatalf("Open(nil, %v): %v, %d, %d", a, l, len(texts), e)
		}
	}
}

// R4: what is handed in is left as it was, and so is the room behind it; what is handed out shares nothing with it, with the log, or with the disk.
func TestNothingIsShared(t *testing.T) {
	d := strewn(t, 16)
	l, m := begun(t, d, 2, 6, 1, 1)
	for i, size := range []int{20, 48, 100, 1, 193, 5} {
		room := filled(size+300, i)
		was := bytes.Clone(room)
		appends(t, "with room behind", d, l, m, room[:size])
		if !bytes.Equal(room, was) {
			t.Fatal("what was handed in has changed")
		}
		answered(t, "too long", l.Append(slices.Repeat(room, 9)), api.ErrFull)
		m.texts[i] = was[:size]
		clear(room)
	}
	m.check(t, "what was handed in is cleared", d, l)

	opened, texts, e := wal.Open(d, 2, 6, 1, 1)
	answered(t, "Open", e, api.OK)
	if !same(texts, m.texts) {
		t.Fatal("other records")
	}
	for i := range texts {
		_ = append(texts[i], filled(100, 3)...)
	}
	if !same(texts, m.texts) {
		t.Fatal("the records share memory")
	}
	for i := range texts {
		clear(texts[i][:cap(texts[i])])
	}
	clear(texts[:cap(texts)])
	m.check(t, "what was handed out is cleared", d, opened)
	opens(t, "what was handed out is cleared", d, 2, 6, 1, 1, m.texts)
	m.stat = d.Stat()
	appends(t, "what was handed out is cleared", d, opened, m, filled(20, 7))
}
