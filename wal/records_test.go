package wal_test

import (
	"bytes"
	"math/rand"
	"slices"
	"testing"

	"chantry/api"
	"chantry/crc"
	"chantry/disk"
)

// fields are a sector's, as the tests read them.
type fields struct {
	kind, epoch, number, left int
	data                      []byte
}

// sectorAt answers the sector at a place of an area, by its bytes alone, or false if there is none.
func sectorAt(area []byte, place int) (fields, bool) {
	if (place+1)*64 > len(area) {
		return fields{}, false
	}
	b := area[place*64 : place*64+64]
	number := func(at int) int {
		return int(b[at]) | int(b[at+1])<<8 | int(b[at+2])<<16 | int(b[at+3])<<24
	}
	s := fields{kind: int(b[0]), epoch: number(4), number: number(8), left: int(b[2]) | int(b[3])<<8}
	size := int(b[1])
	if !bytes.Equal(b, crc.Seal(b[:60])) || s.kind == 0 || size > 48 || s.epoch > api.MaxNum || s.number > api.MaxNum || !bytes.Equal(b[12+size:60], make([]byte, 48-size)) {
		return fields{}, false
	}
	s.data = b[12 : 12+size]
	return s, true
}

// counted answers the records of an area that count, as the document says them.
func counted(area []byte, least, most int) [][]byte {
	var texts [][]byte
	for at := 0; ; {
		first, ok := sectorAt(area, at)
		if !ok || first.kind != 2 || first.number != at || first.epoch < least || first.epoch > most {
			return texts
		}
		var text []byte
		for i := range first.left + 1 {
			s, ok := sectorAt(area, at+i)
			kind, full := 3, len(s.data) == 48
			if i == 0 {
				kind = 2
			}
			if i == first.left {
				full = len(s.data) > 0
			}
			if !ok || !full || s.kind != kind || s.epoch != first.epoch || s.number != at+i || s.left != first.left-i {
				return texts
			}
			text = append(text, s.data...)
		}
		texts = append(texts, text)
		at += first.left + 1
	}
}

// laid answers a disk of 16 blocks on which these bytes stand from a block on.
func laid(t *testing.T, from int, area []byte) *disk.Disk {
	t.Helper()
	image := filled(16*256, 5)
	copy(image[from*256:], area)
	return holding(t, image)
}

// three answers an area of 5 blocks in which three records count: of 1, 4 and 3 sectors, of the epochs 5, 3 and 7. It ends with zero bytes.
func three() ([]byte, [][]byte) {
	texts := [][]byte{filled(20, 1), filled(48*4, 2), filled(48*2+1, 3)}
	b := slices.Concat(whole(5, 0, texts[0]), whole(3, 1, texts[1]), whole(7, 5, texts[2]))
	return append(b, make([]byte, 5*256-len(b))...), texts
}

// begins answers of each of three's sectors how many records there are ahead of the one that has it.
var begins = []int{0, 1, 1, 1, 1, 2, 2, 2}

// 13.1: records of any epochs from the one to the other count, in whatever order these are; the first one that is not ends them.
func TestEpochs(t *testing.T) {
	area, texts := three()
	d := laid(t, 3, area)
	for least := 1; least <= 9; least++ {
		for most := least; most <= 9; most++ {
			n := 0
			for _, epoch := range []int{5, 3, 7} {
				if epoch < least || epoch > most {
					break
				}
				n++
			}
			opens(t, "epochs", d, 3, 5, least, most, texts[:n])
		}
	}
	for _, epoch := range []int{1, 2, 255, 256, 65536, 1 << 24, api.MaxNum - 1, api.MaxNum} {
		d := laid(t, 3, append(whole(epoch, 0, texts[0]), make([]byte, 64)...))
		opens(t, "just this epoch", d, 3, 1, epoch, epoch, texts[:1])
		opens(t, "from it on", d, 3, 1, epoch, api.MaxNum, texts[:1])
		opens(t, "up to it", d, 3, 1, 1, epoch, texts[:1])
		if epoch > 1 {
			opens(t, "below it", d, 3, 1, 1, epoch-1, nil)
		}
		if epoch < api.MaxNum {
			opens(t, "above it", d, 3, 1, epoch+1, api.MaxNum, nil)
		}
	}
	zero := laid(t, 3, append(whole(0, 0, texts[0]), make([]byte, 64)...))
	opens(t, "of epoch 0", zero, 3, 1, 1, api.MaxNum, nil)
}

// 13.1: a record of which one byte of one sector is turned is none: there the records end.
func TestTurnedBytes(t *testing.T) {
	area, texts := three()
	opens(t, "as it was", laid(t, 3, area), 3, 5, 1, 9, texts)
	for at := range len(begins) * 64 {
		for _, turn := range []byte{1, 16, 128, 255} {
			b := bytes.Clone(area)
			b[at] ^= turn
			opens(t, "a byte is turned", laid(t, 3, b), 3, 5, 1, 9, texts[:begins[at/64]])
		}
	}
	for at := len(begins) * 64; at < len(area); at++ {
		b := bytes.Clone(area)
		b[at] = 1
		opens(t, "a byte behind them is turned", laid(t, 3, b), 3, 5, 1, 9, texts)
	}
}

// 13.1: a record of which one sector is another one, sealed and all, is none: of another Kind, Epoch, Number, Left, of fewer bytes, or of another place.
func TestOtherSectors(t *testing.T) {
	area, texts := three()
	for place, n := range begins {
		is, ok := sectorAt(area, place)
		if !ok {
			t.Fatalf("no sector at %d", place)
		}
		ends := func(why string, sector []byte) {
			t.Helper()
			b := bytes.Clone(area)
			copy(b[place*64:], sector)
			if want := counted(b, 1, 9); len(want) != n {
				t.Fatalf("%s at %d: %d records, want %d", why, place, len(want), n)
			}
			opens(t, why, laid(t, 3, b), 3, 5, 1, 9, texts[:n])
		}
		for kind := range 256 {
			if kind != is.kind {
				ends("another Kind", one(kind, is.epoch, is.number, is.left, is.data))
			}
		}
		for _, epoch := range []int{0, is.epoch + 256, is.epoch + 65536, api.MaxNum, api.MaxNum + 1, 1<<32 - 1, 10} {
			ends("an Epoch outside", one(is.kind, epoch, is.number, is.left, is.data))
		}
		for _, number := range []int{place + 1, place + 2, place + 3*4, place + 256, place + 65536, 20, api.MaxNum, 1 << 31, 1<<32 - 1, max(place, 1) - 1} {
			if number != place {
				ends("another Number", one(is.kind, is.epoch, number, is.left, is.data))
			}
		}
		for _, left := range []int{is.left + 1, is.left + 2, is.left + 256, 20 - place, 20, 65535, max(is.left, 1) - 1} {
			if left != is.left {
				ends("another Left", one(is.kind, is.epoch, is.number, left, is.data))
			}
		}
		for size := range 49 {
			if is.left > 0 && size < 48 || size == 0 {
				ends("fewer bytes", one(is.kind, is.epoch, is.number, is.left, is.data[:min(size, len(is.data))]))
			}
		}
		for other := range 20 {
			if other != place {
				ends("another place's", area[other*64:other*64+64])
			}
		}
		ends("zero bytes", make([]byte, 64))
		ends("any bytes", filled(64, place))
		ends("sealed zero bytes", crc.Seal(make([]byte, 60)))
	}
}

// 13.1: in one record all sectors are of one Epoch, be the others' ones that would count.
func TestEpochsWithinARecord(t *testing.T) {
	area, texts := three()
	for place, n := range begins {
		is, _ := sectorAt(area, place)
		for epoch := 1; epoch <= 9; epoch++ {
			b := bytes.Clone(area)
			copy(b[place*64:], one(is.kind, epoch, is.number, is.left, is.data))
			want := texts[:n]
			if epoch == is.epoch || place == 0 { // the first record has one sector
				want = texts
			}
			opens(t, "another Epoch", laid(t, 3, b), 3, 5, 1, 9, want)
		}
	}
}

// 13.1: what stands in the midst of a record, or is another kind's, does not begin one, though it is a text of its own.
func TestNoBeginnings(t *testing.T) {
	rest := make([]byte, 4*256)
	for _, kind := range []int{1, 3, 4, 254} {
		lone := one(kind, 2, 0, 0, []byte("ab"))
		opens(t, "another kind's text", laid(t, 3, append(lone, rest...)), 3, 4, 1, 9, nil)
		two := append(one(kind, 2, 0, 1, filled(48, 1)), one(kind+1, 2, 1, 0, []byte("ab"))...)
		opens(t, "another kind's text of two", laid(t, 3, append(two, rest...)), 3, 4, 1, 9, nil)
		behind := slices.Concat(whole(2, 0, []byte("ab")), one(kind, 2, 1, 0, []byte("ab")), whole(2, 2, []byte("ab")), rest)
		opens(t, "behind a record", laid(t, 3, behind), 3, 4, 1, 9, [][]byte{[]byte("ab")})
	}
	gap := slices.Concat(whole(2, 0, []byte("ab")), make([]byte, 64), whole(2, 2, []byte("cd")), rest)
	opens(t, "behind a gap", laid(t, 3, gap), 3, 4, 1, 9, [][]byte{[]byte("ab")})
	opens(t, "not at sector 0", laid(t, 3, slices.Concat(make([]byte, 64), whole(2, 1, []byte("ab")), rest)), 3, 4, 1, 9, nil)
}

// 13.1: a record that would go behind the area's end is none, though its sectors stand there; nor is one that begins there.
func TestBehindTheEnd(t *testing.T) {
	var b []byte
	var texts [][]byte
	for place, i := 0, 0; len(b) < 13*256; i++ {
		text := filled(48*(1+i*3%7), i)
		texts = append(texts, text)
		b = append(b, whole(2, place, text)...)
		place = len(b) / 64
	}
	d := laid(t, 2, b[:13*256])
	for blocks := 1; blocks <= 13; blocks++ {
		want := counted(b[:blocks*256], 1, 9)
		n := 0
		for sectors := 0; sectors+len(texts[n])/48 <= blocks*4; n++ {
			sectors += len(texts[n]) / 48
		}
		if !same(want, texts[:n]) {
			t.Fatalf("of %d blocks: %d records, want %d", blocks, len(want), n)
		}
		opens(t, "up to the end", d, 2, blocks, 1, 9, want)
	}
	for _, left := range []int{3, 4, 5, 100, 65535} {
		for _, last := range []int{0, 1, 2, 3} {
			b := append(whole(2, 0, filled(48*last+1, 1)), make([]byte, 256)...)
			if last == 0 {
				b = make([]byte, 256)
			}
			copy(b[last*64:], one(2, 2, last, left, filled(48, 2)))
			for i := last + 1; i < 4; i++ {
				copy(b[i*64:], one(3, 2, i, left-i+last, filled(48, 2)))
			}
			b = b[:256]
			want := counted(b, 1, 9)
			if last+left < 4 && len(want) == 0 {
				t.Fatalf("a record of %d at %d is none", left, last)
			}
			opens(t, "Left goes behind the end", laid(t, 15, b), 15, 1, 1, 9, want)
		}
	}
}

// 13.1: sectors are numbered from the area's own beginning on: in an area that begins elsewhere they do not count.
func TestAnotherArea(t *testing.T) {
	var b []byte
	var texts [][]byte
	for i := range 32 {
		texts = append(texts, filled(1+i, i))
		b = append(b, whole(2, i, texts[i])...)
	}
	d := laid(t, 4, b)
	opens(t, "its own area", d, 4, 8, 1, 9, texts)
	for from := range 16 {
		if from != 4 {
			opens(t, "another area", d, from, min(4, 16-from), 1, 9, nil)
		}
	}
}

// strew answers an area of records one behind the other, with faults here and there.
func strew(r *rand.Rand, blocks int) []byte {
	var b []byte
	for len(b) < blocks*256 && r.Intn(12) > 0 {
		epoch, number := 1+r.Intn(6), len(b)/64
		if r.Intn(25) == 0 {
			number += r.Intn(5) - 1
		}
		size := 1 + r.Intn(60)
		if r.Intn(3) == 0 {
			size = 1 + r.Intn(500)
		}
		b = append(b, whole(epoch, max(number, 0), filled(size, r.Intn(250)))...)
	}
	b = append(b, make([]byte, blocks*256)...)[:blocks*256]
	for range r.Intn(3) {
		place := r.Intn(blocks * 4)
		is, ok := sectorAt(b, place)
		if !ok {
			continue
		}
		switch r.Intn(5) {
		case 0:
			is.kind = 1 + r.Intn(4)
		case 1:
			is.epoch = r.Intn(8)
		case 2:
			is.left = r.Intn(3)
		case 3:
			is.data = is.data[:r.Intn(len(is.data)+1)]
		case 4:
			is.number = r.Intn(blocks * 4)
		}
		copy(b[place*64:], one(is.kind, is.epoch, is.number, is.left, is.data))
	}
	return b
}

// 13.1, 13.2: of areas of all kinds just those records count that the document says; what is appended then stands behind them.
func TestAgainstReader(t *testing.T) {
	r := rand.New(rand.NewSource(131))
	some, none := 0, 0
	for range 6000 {
		blocks := 1 + r.Intn(9)
		area := strew(r, blocks)
		from := r.Intn(17 - blocks)
		d := laid(t, from, area)
		least := 1 + r.Intn(3)
		most := least + r.Intn(6)
		want := counted(area, least, most)
		if len(want) > 0 {
			some++
		} else {
			none++
		}
		l := opens(t, "any", d, from, blocks, least, most, want)
		if l.Room() < 2 {
			continue
		}
		m := &model{image: d.Image(), from: from, size: blocks * 4, used: l.Used(), epoch: most, texts: want, stat: d.Stat()}
		appends(t, "behind them", d, l, m, filled(1+r.Intn(l.Room()*48), 7))
		again := d.Image()[from*256 : (from+blocks)*256]
		opens(t, "and anew", d, from, blocks, least, most, counted(again, least, most))
	}
	if some < 1500 || none < 500 {
		t.Fatalf("%d areas with records, %d without", some, none)
	}
}
