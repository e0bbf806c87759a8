package chain_test

import (
	"bytes"
	"math/rand"
	"slices"
	"testing"

	"chantry/api"
	"chantry/cell"
	"chantry/chain"
	"chantry/disk"
)

// reads fails unless a part is read so, each of its blocks once, and the disk is otherwise left as it was.
func reads(t *testing.T, why string, d *disk.Disk, p api.Part, text []byte, places []int) {
	t.Helper()
	image, waits, stat := d.Image(), d.Waits(), d.Stat()
	stat.Reads += len(places)
	got, blocks, e := chain.Read(d, p)
	if e != api.OK || !bytes.Equal(got, text) || !slices.Equal(blocks, places) {
		t.Fatalf("%s: Read(%+v): %d bytes, %v, %d, want %d bytes, %v", why, p, len(got), blocks, e, len(text), places)
	}
	if !bytes.Equal(d.Image(), image) || d.Waits() != waits || d.Stat() != stat {
		t.Fatalf("%s: Read(%+v) has changed the disk: %+v, want %+v", why, p, d.Stat(), stat)
	}
}

// readsNone fails unless a Read is answered so, with nothing beside it, and the disk stays as it was; and unless it ends soon.
func readsNone(t *testing.T, why string, d *disk.Disk, p api.Part, want api.Errno) {
	t.Helper()
	image, waits, stat := d.Image(), d.Waits(), d.Stat()
	text, places, e := chain.Read(d, p)
	if e != want || len(text) != 0 || len(places) != 0 {
		t.Fatalf("%s: Read(%+v): %d bytes, %v, %d, want %d", why, p, len(text), places, e, want)
	}
	reads := d.Stat().Reads - stat.Reads
	stat.Reads += reads
	if !bytes.Equal(d.Image(), image) || d.Waits() != waits || d.Stat() != stat {
		t.Fatalf("%s: Read(%+v) has changed the disk: %+v, want %+v", why, p, d.Stat(), stat)
	}
	if reads > d.Blocks() || want != api.ErrRot && reads > 0 {
		t.Fatalf("%s: Read(%+v) has read %d blocks", why, p, reads)
	}
}

// The chain that is broken below: three blocks, of Owner 3.
var (
	rotText   = filled(600, 20)
	rotPlaces = []int{9, 5, 12}
	rotPart   = api.Part{First: 9, Size: 600, Owner: 3}
)

// rotDisk answers a disk of 16 blocks with that chain, in which some blocks are replaced.
func rotDisk(t *testing.T, replaced map[int][]byte) *disk.Disk {
	t.Helper()
	image := imageWith(filled(16*256, 21), 3, rotPlaces, rotText, 3)
	for n, b := range replaced {
		copy(image[n*256:n*256+256], b)
	}
	d, _ := disk.Load(image)
	return d
}

// at answers the bytes of that chain's cell of a number, as they are but for what is changed.
func at(number int, change func(c *api.Cell)) []byte {
	c := api.Cell{Owner: 3, Number: number, Data: rotText[number*242 : min(number*242+242, 600)]}
	if number < 2 {
		c.Next = rotPlaces[number+1]
	}
	change(&c)
	return sealed(c.Owner, c.Number, c.Next, c.Data)
}

// rots fails unless that chain is ErrRot where one of its cells is changed.
func rots(t *testing.T, why string, number int, change func(c *api.Cell)) {
	t.Helper()
	d := rotDisk(t, map[int][]byte{rotPlaces[number]: at(number, change)})
	readsNone(t, why, d, rotPart, api.ErrRot)
}

// 10.2: that chain is one, unless it is changed; and blocks beside it count for nothing.
func TestReadOfWhatIsNotBroken(t *testing.T) {
	reads(t, "as it is", rotDisk(t, nil), rotPart, rotText, rotPlaces)
	for number, n := range rotPlaces {
		d := rotDisk(t, map[int][]byte{n: at(number, func(*api.Cell) {})})
		reads(t, "nothing changed", d, rotPart, rotText, rotPlaces)
	}
	for n := range 16 {
		if !slices.Contains(rotPlaces, n) {
			reads(t, "beside it", rotDisk(t, map[int][]byte{n: make([]byte, 256)}), rotPart, rotText, rotPlaces)
			reads(t, "beside it", rotDisk(t, map[int][]byte{n: at(0, func(*api.Cell) {})}), rotPart, rotText, rotPlaces)
		}
	}
}

// 10.2: what may be no part of the disk, on or off; and a disk that is off.
func TestReadOfNoPart(t *testing.T) {
	off := rotDisk(t, nil)
	off.Stop(0)
	off.Flush()
	readsNone(t, "off", off, rotPart, api.ErrOff)
	readsNone(t, "off, and there is no chain", off, api.Part{First: 2, Size: api.MaxBytes, Owner: api.MaxNum}, api.ErrOff)
	on := rotDisk(t, nil)
	for _, d := range []*disk.Disk{on, off} {
		with := func(change func(p *api.Part, n int), more ...int) {
			for _, n := range append(append([]int{0}, more...), outside...) {
				p := rotPart
				change(&p, n)
				readsNone(t, "no part", d, p, api.ErrArg)
			}
		}
		with(func(p *api.Part, n int) { p.First = n }, 1, 16, 17, 1023, 1024, 65536+9)
		with(func(p *api.Part, n int) { p.Size = n }, api.MaxBytes+1)
		with(func(p *api.Part, n int) { p.Owner = n }, api.MaxNum+1)
		readsNone(t, "no part", d, api.Part{}, api.ErrArg)
	}
	off.Crash(nil)
	reads(t, "on again", off, rotPart, rotText, rotPlaces)
	// A block that other disks have is none of this one.
	readsNone(t, "past it", loaded(t, 17, 1), api.Part{First: 17, Size: 1, Owner: 1}, api.ErrArg)
	readsNone(t, "not past it", loaded(t, 17, 1), api.Part{First: 16, Size: 1, Owner: 1}, api.ErrRot)
}

// 10.2: a part that may be, but is not that of the chain.
func TestReadOfAnotherPart(t *testing.T) {
	with := func(why string, p api.Part) {
		t.Helper()
		readsNone(t, why, rotDisk(t, nil), p, api.ErrRot)
	}
	for first := 2; first < 16; first++ {
		if first != 9 {
			with("another First", api.Part{First: first, Size: 600, Owner: 3})
			with("another First", api.Part{First: first, Size: 242, Owner: 3})
			with("another First", api.Part{First: first, Size: 116, Owner: 3})
		}
	}
	for _, size := range []int{1, 2, 116, 241, 242, 243, 300, 358, 483, 484, 485, 599, 601, 725, 726, 727, 728, 968, 969, 14 * 242, 15 * 242, 1024 * 242, api.MaxBytes - 1, api.MaxBytes} {
		with("another Size", api.Part{First: 9, Size: size, Owner: 3})
	}
	for _, owner := range []int{1, 2, 4, 3 + 256, 3 + 65536, 3 + 1<<24, api.MaxNum} {
		with("another Owner", api.Part{First: 9, Size: 600, Owner: owner})
	}
	d := loaded(t, 16, 22)
	text := filled(484, 22)
	p := written(t, d, 7, []int{4, 3}, text)
	for _, size := range []int{1, 242, 483, 485, 726, 727} {
		readsNone(t, "a Size beside a whole cell's", d, api.Part{First: 4, Size: size, Owner: 7}, api.ErrRot)
	}
	reads(t, "its Size", d, p, text, []int{4, 3})
}

// 10.2: a block that is no cell's, at any place of the chain.
func TestReadOfNoCell(t *testing.T) {
	for number, n := range rotPlaces {
		good := at(number, func(*api.Cell) {})
		for i := range 256 {
			b := bytes.Clone(good)
			b[i] ^= 1 << (i % 8)
			readsNone(t, "one bit", rotDisk(t, map[int][]byte{n: b}), rotPart, api.ErrRot)
		}
		readsNone(t, "zero bytes", rotDisk(t, map[int][]byte{n: make([]byte, 256)}), rotPart, api.ErrRot)
		readsNone(t, "any bytes", rotDisk(t, map[int][]byte{n: filled(256, 30)}), rotPart, api.ErrRot)
		rots(t, "no Data", number, func(c *api.Cell) { c.Data = nil })
		rots(t, "no Owner", number, func(c *api.Cell) { c.Owner = 0 })
		rots(t, "an Owner past the greatest", number, func(c *api.Cell) { c.Owner = 1<<31 + 3 })
	}
	// Sectors that were lost, in any block of the chain.
	for i := range rotPlaces {
		for mask := range 15 {
			d := loaded(t, 16, 23)
			p := written(t, d, 3, rotPlaces, rotText)
			masks := []int{15, 15, 15}
			masks[i] = mask
			d.Crash(masks)
			readsNone(t, "sectors are lost", d, p, api.ErrRot)
		}
	}
}

// 10.2: a cell of another Owner, or another Number than its place, at any place of the chain.
func TestReadOfAnotherCell(t *testing.T) {
	for number := range rotPlaces {
		for _, owner := range []int{1, 2, 4, 3 + 256, 3 + 65536, 3 + 1<<24, api.MaxNum} {
			rots(t, "another Owner", number, func(c *api.Cell) { c.Owner = owner })
		}
		for _, other := range []int{0, 1, 2, 3, 256, 257, 258, 65535} {
			if other != number {
				rots(t, "another Number", number, func(c *api.Cell) { c.Number = other })
			}
		}
	}
	// All of them are of one Owner, or are numbered by one, but not as the part and the place ask.
	replaced := map[int][]byte{}
	for number, n := range rotPlaces {
		replaced[n] = at(number, func(c *api.Cell) { c.Owner = 4 })
	}
	readsNone(t, "all of another Owner", rotDisk(t, replaced), rotPart, api.ErrRot)
	p := rotPart
	p.Owner = 4
	reads(t, "all of that Owner", rotDisk(t, replaced), p, rotText, rotPlaces)
	for number, n := range rotPlaces {
		replaced[n] = at(number, func(c *api.Cell) { c.Number++ })
	}
	readsNone(t, "numbered from 1 on", rotDisk(t, replaced), rotPart, api.ErrRot)
	for number, n := range rotPlaces {
		replaced[n] = at(number, func(c *api.Cell) { c.Number = 0 })
	}
	readsNone(t, "all numbered 0", rotDisk(t, replaced), rotPart, api.ErrRot)
}

// 10.2: a Next that is no block from 2 on, is another block, or one that the chain had; and one behind the last cell.
func TestReadOfAnotherNext(t *testing.T) {
	for number := range rotPlaces {
		for _, next := range []int{0, 1, 2, 3, 4, 9, 5, 12, 13, 15, 16, 17, 255, 256, 256 + 5, 1023, 1024, 65535} {
			if number < 2 && next == rotPlaces[number+1] || number == 2 && next == 0 {
				continue
			}
			rots(t, "another Next", number, func(c *api.Cell) { c.Next = next })
		}
	}
	// Blocks 0 and 1 are not the chain's, though they have the cell that it asks for.
	for n := range 2 {
		d := rotDisk(t, map[int][]byte{9: at(0, func(c *api.Cell) { c.Next = n }), n: at(1, func(*api.Cell) {})})
		readsNone(t, "a cell in a block ahead of 2", d, rotPart, api.ErrRot)
		d = rotDisk(t, map[int][]byte{n: at(0, func(*api.Cell) {})})
		p := rotPart
		p.First = n
		readsNone(t, "a First ahead of 2", d, p, api.ErrArg)
	}
	// A chain that turns in a ring, however long the text seems.
	for _, size := range []int{243, 485, 600, 1024 * 242, api.MaxBytes} {
		p := api.Part{First: 9, Size: size, Owner: 3}
		readsNone(t, "itself", rotDisk(t, map[int][]byte{9: at(0, func(c *api.Cell) { c.Next = 9 })}), p, api.ErrRot)
		whole := func(c *api.Cell) { c.Data, c.Next = rotText[:242], 9 }
		readsNone(t, "a ring", rotDisk(t, map[int][]byte{12: at(2, whole)}), p, api.ErrRot)
	}
	// What stands behind the text's last cell is not looked at: it is the Next alone that breaks it.
	d := rotDisk(t, map[int][]byte{9: sealed(3, 0, 0, rotText[:242])})
	reads(t, "one cell", d, api.Part{First: 9, Size: 242, Owner: 3}, rotText[:242], []int{9})
	d = rotDisk(t, map[int][]byte{9: sealed(3, 0, 9, rotText[:242])})
	readsNone(t, "one cell with a Next", d, api.Part{First: 9, Size: 242, Owner: 3}, api.ErrRot)
}

// 10.2: cells that are no text: one ahead of the last one that is not whole, though the Size is that of all of them.
func TestReadOfNoText(t *testing.T) {
	for number := range 2 {
		for _, n := range []int{1, 2, 126, 240, 241} {
			rots(t, "not whole", number, func(c *api.Cell) { c.Data = c.Data[:n] })
			d := rotDisk(t, map[int][]byte{rotPlaces[number]: at(number, func(c *api.Cell) { c.Data = c.Data[:n] }), 12: at(2, func(c *api.Cell) { c.Data = filled(242, 1) })})
			readsNone(t, "not whole", d, api.Part{First: 9, Size: 242 + n + 242, Owner: 3}, api.ErrRot)
		}
	}
	for n := 1; n <= 242; n++ {
		d := rotDisk(t, map[int][]byte{12: at(2, func(c *api.Cell) { c.Data = filled(n, 1) })})
		p := api.Part{First: 9, Size: 484 + n, Owner: 3}
		reads(t, "the last one's bytes", d, p, append(bytes.Clone(rotText[:484]), filled(n, 1)...), rotPlaces)
		if n != 116 {
			readsNone(t, "the last one's bytes", d, rotPart, api.ErrRot)
		}
	}
}

// 10.3: what was written is read, be it safe or not, behind writes to other blocks, behind flushes and crashes; until its blocks are written to.
func TestWhatWasWrittenIsRead(t *testing.T) {
	text, places := filled(700, 24), []int{14, 2, 8}
	d := loaded(t, 16, 24)
	p := written(t, d, 5, places, text)
	reads(t, "it waits", d, p, text, places)
	for n := range 16 {
		if !slices.Contains(places, n) {
			d.Write(n, filled(256, n))
		}
	}
	reads(t, "behind other writes", d, p, text, places)
	lost, kept := d.Clone(), d.Clone()
	lost.Crash(nil)
	readsNone(t, "lost", lost, p, api.ErrRot)
	kept.Crash([]int{15, 15, 15})
	reads(t, "kept", kept, p, text, places)
	d.Flush()
	reads(t, "safe", d, p, text, places)
	d.Stop(0)
	d.Write(3, filled(256, 1))
	readsNone(t, "off", d, p, api.ErrOff)
	d.Crash([]int{15})
	reads(t, "behind a crash", d, p, text, places)
	again, _ := disk.Load(d.Image())
	reads(t, "of another disk of those bytes", again, p, text, places)
	for _, n := range places {
		c := d.Clone()
		c.Write(n, make([]byte, 256))
		readsNone(t, "a block was written to", c, p, api.ErrRot)
		c.Crash(nil)
		reads(t, "that is lost again", c, p, text, places)
	}
}

// 10.3: many texts stand beside one another, of one Owner or of many; each is read until its blocks are taken by others.
func TestManyTexts(t *testing.T) {
	type known struct {
		part   api.Part
		text   []byte
		places []int
	}
	r := rand.New(rand.NewSource(103))
	for round := range 20 {
		blocks := 16 + r.Intn(60)
		d := loaded(t, blocks, round)
		var all []known
		for range 40 {
			size := 1 + r.Intn(5*242)
			k := known{text: filled(size, r.Intn(99)), places: shuffled(r, count(size), blocks)}
			k.part = written(t, d, 1+r.Intn(2)*r.Intn(1000), k.places, k.text)
			all = slices.DeleteFunc(all, func(o known) bool {
				return slices.ContainsFunc(o.places, func(n int) bool { return slices.Contains(k.places, n) })
			})
			all = append(all, k)
			if r.Intn(4) == 0 {
				d.Flush()
				d.Crash(nil)
			}
			for _, o := range all {
				reads(t, "one of many", d, o.part, o.text, o.places)
			}
		}
	}
}

// told answers what Read is to answer, by the document's words alone, of a disk that is on.
func told(image []byte, p api.Part) ([]byte, []int, api.Errno) {
	blocks := len(image) / 256
	if p.First < 2 || p.First > blocks-1 || p.Size < 1 || p.Size > 1<<18 || p.Owner < 1 || p.Owner > 1<<31-1 {
		return nil, nil, api.ErrArg
	}
	var cells []api.Cell
	var places []int
	for n := p.First; len(cells) < count(p.Size); n = cells[len(cells)-1].Next {
		if n < 2 || n >= blocks {
			return nil, nil, api.ErrRot
		}
		c, e := cell.Get(image[n*256 : n*256+256])
		if e != api.OK || c.Owner != p.Owner || c.Number != len(cells) {
			return nil, nil, api.ErrRot
		}
		cells, places = append(cells, c), append(places, n)
	}
	var text []byte
	for i, c := range cells {
		last := i == len(cells)-1
		if last != (c.Next == 0) || !last && len(c.Data) != 242 {
			return nil, nil, api.ErrRot
		}
		text = append(text, c.Data...)
	}
	if len(text) != p.Size {
		return nil, nil, api.ErrRot
	}
	return text, places, api.OK
}

// someCell answers the bytes of a block, as a rule those of a cell that may stand in a chain: its Number goes by the block, and its Next, if it has one, to such a block as may be next.
func someCell(r *rand.Rand, n int) []byte {
	rarely := func() bool { return r.Intn(10) == 0 }
	owner, number, next, size := 1, n%3, 0, 242
	if r.Intn(2) == 0 {
		next = 3*r.Intn(6) + (number+1)%3
	}
	if next == 0 && r.Intn(2) == 0 || rarely() {
		size = 1 + r.Intn(3)
	}
	if rarely() {
		owner = 2
	}
	if rarely() {
		number = r.Intn(3)
	}
	b := sealed(owner, number, next, filled(size, n))
	if rarely() {
		b[r.Intn(256)]++
	}
	return b
}

// 10.2: on disks of cells of all kinds Read tells what the document's words tell.
func TestReadOfAnyDisk(t *testing.T) {
	r := rand.New(rand.NewSource(104))
	answers, lengths := map[api.Errno]int{}, map[int]int{}
	for range 4000 {
		var image []byte
		for n := range 16 {
			image = append(image, someCell(r, n)...)
		}
		d, _ := disk.Load(image)
		for range 16 {
			p := api.Part{First: 3 * r.Intn(6), Size: 242*r.Intn(3) + []int{1, 2, 3, 242}[r.Intn(4)], Owner: 1 + r.Intn(10)/9}
			text, places, e := told(image, p)
			answers[e]++
			lengths[len(places)]++
			if e == api.OK {
				reads(t, "any", d, p, text, places)
			} else {
				readsNone(t, "any", d, p, e)
			}
		}
	}
	if answers[api.ErrRot] < 1000 || answers[api.ErrArg] < 1000 || lengths[1] < 1000 || lengths[2] < 100 || lengths[3] < 10 {
		t.Fatalf("%v %v", answers, lengths)
	}
}
