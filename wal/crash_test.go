package wal_test

import (
	"bytes"
	"math/rand"
	"slices"
	"testing"

	"chantry/api"
	"chantry/disk"
	"chantry/wal"
)

// kept answers an image of which those sectors are as these writes say that their masks name.
func kept(image []byte, l []write, masks []int) []byte {
	b := bytes.Clone(image)
	for i, w := range l {
		for k := range 4 {
			if masks[i]>>k&1 == 1 {
				copy(b[w.block*256+k*64:w.block*256+k*64+64], w.bytes[k*64:])
			}
		}
	}
	return b
}

// all hands out all lists of masks for so many writes.
func all(writes int, do func(masks []int)) {
	for n := range 1 << (4 * writes) {
		masks := make([]int, writes)
		for i := range masks {
			masks[i] = n >> (4 * i) & 15
		}
		do(masks)
	}
}

// few hands out lists of masks for so many writes: all for one, else some of all kinds.
func few(r *rand.Rand, writes int, do func(masks []int)) {
	if writes == 1 {
		all(writes, do)
		return
	}
	for n := range 50 {
		masks := make([]int, writes)
		for i := range masks {
			switch n {
			case 0:
			case 1:
				masks[i] = 15
			default:
				masks[i] = []int{0, 15, 15, 15, 1 << r.Intn(4), 15 - 1<<r.Intn(4), r.Intn(16)}[r.Intn(7)]
			}
		}
		do(masks)
	}
}

// ready answers a log of the epoch 2 with texts of these sizes, its disk, and a model.
func ready(t *testing.T, over *disk.Disk, ahead []int) (*disk.Disk, *wal.Log, *model) {
	t.Helper()
	d := over.Clone()
	l, m := begun(t, d, 2, 6, 2, 2)
	for i, size := range ahead {
		appends(t, "ahead", d, l, m, filled(size, i))
	}
	return d, l, m
}

// older answers a disk that has a full log of an older life.
func older(t *testing.T) *disk.Disk {
	t.Helper()
	d := strewn(t, 16)
	l, m := begun(t, d, 2, 6, 1, 1)
	for i := 0; l.Room() > 0; i++ {
		appends(t, "older", d, l, m, filled(1+i%2*48, i))
	}
	return d
}

// falls has the power go at a deed of an Append, and answers the writes that wait then.
func falls(t *testing.T, d *disk.Disk, l *wal.Log, m *model, text []byte, deed int) []write {
	t.Helper()
	writes := m.writes(text)
	waits := writes[:min(deed+1, len(writes))]
	stat := d.Stat()
	d.Stop(deed)
	answered(t, "an Append at which the power goes", l.Append(text), api.ErrOff)
	now := d.Stat()
	if d.Waits() != len(waits) || now.Writes-stat.Writes != deed || now.Flushes != stat.Flushes || !d.Off() {
		t.Fatalf("at deed %d of %d: %d wait, %+v, ahead of it %+v", deed, len(writes)+1, d.Waits(), now, stat)
	}
	full := slices.Repeat([]int{15}, len(waits))
	if !bytes.Equal(d.Safe(), m.image) || !bytes.Equal(d.Image(), kept(m.image, waits, full)) {
		t.Fatalf("at deed %d of %d the disk is not as it should be", deed, len(writes)+1)
	}
	dead(t, "the power is gone", d, l, m.used, m.size)
	return waits
}

// 13.3, 13.4: at whatever deed of an Append the power goes, and whatever sectors are kept: each Write said what it was to say; the log is dead; behind the crash the records are those ahead, and perhaps that one, whole; opened again they are the same; and what is appended then stands behind them.
func TestPowerGoes(t *testing.T) {
	r := rand.New(rand.NewSource(134))
	for _, over := range []*disk.Disk{blank(t, 16), strewn(t, 16), older(t)} {
		for _, ahead := range [][]int{nil, {1}, {40, 49}, {192}, {300}} {
			for _, size := range []int{1, 97, 192, 241, 433} {
				d, l, m := ready(t, over, ahead)
				text := filled(size, 9)
				for deed := range len(m.writes(text)) + 1 {
					off := d.Clone()
					log := opens(t, "a clone's", off, 2, 6, 2, 2, m.texts)
					waits := falls(t, off, log, m, text, deed)
					few(r, len(waits), func(masks []int) {
						behind(t, off.Clone(), m, text, waits, masks)
					})
				}
				appends(t, "no power went", d, l, m, text)
				opens(t, "no power went", d, 2, 6, 2, 2, m.texts)
			}
		}
	}
}

// behind crashes a disk whose power went at the Append of a text, and fails unless the records are those of a model, and perhaps that text.
func behind(t *testing.T, d *disk.Disk, m *model, text []byte, waits []write, masks []int) {
	t.Helper()
	d.Crash(masks)
	image := kept(m.image, waits, masks)
	if !bytes.Equal(d.Image(), image) {
		t.Fatalf("masks %v: the disk has other bytes", masks)
	}
	want := counted(image[2*256:8*256], 2, 3)
	with := append(slices.Clone(m.texts), text)
	if !same(want, m.texts) && !same(want, with) {
		t.Fatalf("masks %v: %d records behind %d", masks, len(want), len(m.texts))
	}
	lost := slices.ContainsFunc(masks, func(n int) bool { return n != 15 })
	if len(waits) == len(m.writes(text)) && !lost && !same(want, with) {
		t.Fatal("all was kept, but the record is not there")
	}
	opens(t, "behind the crash", d, 2, 6, 2, 3, want)
	l := opens(t, "and again", d, 2, 6, 2, 3, want)
	after := &model{image: image, from: 2, size: 24, used: l.Used(), epoch: 3, texts: want, stat: d.Stat()}
	appends(t, "in the next life", d, l, after, filled(20, 11))
	appends(t, "in the next life", d, l, after, filled(100, 12))
	opens(t, "behind the next life", d, 2, 6, 2, 4, after.texts)
}

// 13.4: for a record of three blocks, all lists of masks there are, at each deed.
func TestPowerGoesAllMasks(t *testing.T) {
	d, _, m := ready(t, older(t), []int{30, 60})
	text := filled(48*8, 9) // of the sectors 3 to 10
	for deed := range 4 {
		off := d.Clone()
		log := opens(t, "a clone's", off, 2, 6, 2, 2, m.texts)
		waits := falls(t, off, log, m, text, deed)
		if len(waits) != min(deed+1, 3) {
			t.Fatalf("%d wait", len(waits))
		}
		all(len(waits), func(masks []int) { behind(t, off.Clone(), m, text, waits, masks) })
	}
}

// 13.4: once an Append was answered OK its record stays, whatever is kept.
func TestPowerGoesBehind(t *testing.T) {
	for _, size := range []int{1, 49, 192, 193, 700} {
		for _, masks := range [][]int{nil, {0}, {15}, {5, 10}, {15, 15, 15, 15, 15, 15}} {
			d, l, m := ready(t, strewn(t, 16), []int{40, 49})
			appends(t, "ahead of the crash", d, l, m, filled(size, 9))
			d.Stop(0)
			d.Flush()
			d.Crash(masks)
			if !bytes.Equal(d.Image(), m.image) {
				t.Fatal("behind the crash the disk has other bytes")
			}
			opens(t, "behind the crash", d, 2, 6, 2, 3, m.texts)
		}
	}
}

// 13.4: the power goes in two lives, one behind the other, at each deed, with all masks: what was seen stays, and nothing else comes.
func TestPowerGoesTwice(t *testing.T) {
	first, second := filled(190, 9), filled(100, 10)
	d, _, m := ready(t, older(t), []int{30})
	for deed := range 3 {
		off := d.Clone()
		log := opens(t, "a clone's", off, 2, 6, 2, 2, m.texts)
		waits := falls(t, off, log, m, first, deed)
		all(len(waits), func(masks []int) {
			if len(waits) == 2 && (masks[0]+masks[1]*7)%11 != 0 && masks[0]&masks[1] != 15 {
				return // some of all kinds are enough here
			}
			next := off.Clone()
			next.Crash(masks)
			image := kept(m.image, waits, masks)
			texts := counted(image[2*256:8*256], 2, 3)
			for again := range 3 {
				twice := next.Clone()
				log := opens(t, "the second life", twice, 2, 6, 2, 3, texts)
				m := &model{image: image, from: 2, size: 24, used: log.Used(), epoch: 3, texts: texts, stat: twice.Stat()}
				if again >= len(m.writes(second))+1 {
					continue
				}
				waits := falls(t, twice, log, m, second, again)
				for n := range 32 {
					masks := []int{n % 16, 15 - n/2, 15}[:len(waits)]
					behind(t, twice.Clone(), m, second, waits, masks)
				}
			}
		})
	}
}

// lives are what is to be there of a log through many lives.
type lives struct {
	r     *rand.Rand
	d     *disk.Disk
	from  int
	size  int // in blocks
	least int // from this epoch on the records count
	epoch int // the last one of which was written
	texts [][]byte
}

// life opens the log with a greater epoch than the one ahead, and lives until the power goes. perhaps is what was not appended in the life ahead, but may be there.
func (v *lives) life(t *testing.T, perhaps []byte) []byte {
	t.Helper()
	v.epoch += 1 + v.r.Intn(3)
	image := v.d.Image()[v.from*256 : (v.from+v.size)*256]
	want := counted(image, v.least, v.epoch)
	with := append(slices.Clone(v.texts), perhaps)
	if !same(want, v.texts) && (perhaps == nil || !same(want, with)) {
		t.Fatalf("%d records count, want %d, and perhaps one", len(want), len(v.texts))
	}
	v.texts = want
	opens(t, "a life", v.d, v.from, v.size, v.least, v.epoch, want)
	l := opens(t, "a life again", v.d, v.from, v.size, v.least, v.epoch, want)
	v.d.Stop(v.r.Intn(14))
	for range 40 {
		if text := v.deed(t, l); text != nil {
			return text
		}
	}
	return nil
}

// deed does something with a log, and answers the text of the Append at which the power went.
func (v *lives) deed(t *testing.T, l *wal.Log) []byte {
	t.Helper()
	switch v.r.Intn(12) {
	case 0:
		v.epoch += v.r.Intn(3)
		answered(t, "Turn", l.Turn(v.epoch), api.OK)
		return nil
	case 1:
		v.epoch++
		answered(t, "Reset", l.Reset(v.epoch), api.OK)
		v.least, v.texts = v.epoch, nil
		return nil
	}
	text := filled(1+v.r.Intn(60+v.r.Intn(500)), v.r.Intn(1000))
	fits := (len(text)+47)/48 <= l.Room()
	switch e := l.Append(text); {
	case !fits:
		answered(t, "without room", e, api.ErrFull)
	case e == api.OK:
		v.texts = append(slices.Clone(v.texts), text)
	default:
		answered(t, "where the power goes", e, api.ErrOff)
		if !l.Dead() || !v.d.Off() {
			t.Fatal("the log is not dead, or the disk not off")
		}
		return text
	}
	return nil
}

// 13.4: through many lives, each of a greater epoch than the one ahead, the records are all that were appended, and perhaps, as the last one, the one at which the power went; behind a Reset those of its epoch on.
func TestManyLives(t *testing.T) {
	r := rand.New(rand.NewSource(135))
	went := 0
	for round := range 300 {
		v := &lives{r: r, d: strewn(t, 16), from: r.Intn(8), size: 1 + r.Intn(8), least: 1}
		if round%2 == 0 {
			v.d = blank(t, 16)
		}
		var perhaps []byte
		for range 12 {
			perhaps = v.life(t, perhaps)
			if perhaps != nil {
				went++
			}
			masks := make([]int, 12)
			for i := range masks {
				masks[i] = []int{0, 15, 15, 15, r.Intn(16)}[r.Intn(5)]
			}
			v.d.Crash(masks)
		}
	}
	if went < 1000 {
		t.Fatalf("the power went %d times", went)
	}
}
