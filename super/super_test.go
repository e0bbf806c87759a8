package super_test

import (
	"bytes"
	"encoding/hex"
	"math"
	"math/rand"
	"strings"
	"testing"

	"chantry/api"
	"chantry/crc"
	"chantry/disk"
	"chantry/sector"
	"chantry/super"
)

// outside are ints that are below all fields of a super, or past them: near and far, and such as seem right in fewer bits.
var outside = []int{
	-1, -2, -7, -16, -256, -65536, -1 << 18, -api.MaxNum, math.MinInt32, -1<<32 + 1, -1<<32 + 20, -1 << 32, math.MinInt + 1, math.MinInt + 20, math.MinInt,
	1 << 31, 1<<31 + 1, 1<<31 + 20, 1<<32 - 1, 1 << 32, 1<<32 + 1, 1<<32 + 20, 1 << 40, 1<<56 + 1, math.MaxInt - 1, math.MaxInt,
}

// goods are supers that may be, at the edges of all their fields.
func goods() []api.Super {
	var l []api.Super
	for _, gen := range []int{1, 2, 3, 7, 8, 255, 256, 65535, 65536, 0x12345678, api.MaxNum - 1, api.MaxNum} {
		for _, blocks := range []int{16, 17, 255, 256, 1023, 1024} {
			for _, log := range []int{1, (gen + 1) / 2, gen} {
				l = append(l, api.Super{Gen: gen, Blocks: blocks, Log: log})
				for _, first := range []int{2, 9, blocks - 1} {
					for _, size := range []int{1, 2, 255, 256, 65536, 1<<18 - 1, 1 << 18} {
						for _, owner := range []int{1, (gen + 1) / 2, gen} {
							l = append(l, api.Super{Gen: gen, Blocks: blocks, Log: log, Man: api.Part{First: first, Size: size, Owner: owner}})
						}
					}
				}
			}
		}
	}
	return l
}

// bads are supers that may not be, each for one cause alone, made of one that may be.
func bads(good api.Super) []api.Super {
	var l []api.Super
	with := func(change func(s *api.Super, n int), ns ...int) {
		for _, n := range append(ns, outside...) {
			s := good
			change(&s, n)
			l = append(l, s)
		}
	}
	man := func(change func(p *api.Part, n int), ns ...int) {
		with(func(s *api.Super, n int) {
			if s.Man == (api.Part{}) {
				s.Man = api.Part{First: 2, Size: 1, Owner: 1}
			}
			change(&s.Man, n)
		}, ns...)
	}
	with(func(s *api.Super, n int) { s.Gen = n }, 0)
	with(func(s *api.Super, n int) { s.Blocks = n }, 0, 1, 2, 15, 1025, 2048, 65536+20)
	with(func(s *api.Super, n int) { s.Log = n }, 0, good.Gen+1, good.Gen+2)
	man(func(p *api.Part, n int) { p.First = n }, 0, 1, good.Blocks, good.Blocks+1, 65536+2)
	man(func(p *api.Part, n int) { p.Size = n }, 0, 1<<18+1, 1<<18+2, 1<<19, 1<<24)
	man(func(p *api.Part, n int) { p.Owner = n }, 0, good.Gen+1, good.Gen+2)
	for bits := 1; bits < 7; bits++ { // of Man one or two fields alone are zero
		s := good
		s.Man = api.Part{}
		if bits&1 != 0 {
			s.Man.First = 2
		}
		if bits&2 != 0 {
			s.Man.Size = 1
		}
		if bits&4 != 0 {
			s.Man.Owner = 1
		}
		l = append(l, s)
	}
	return l
}

// data answers the Data that the document says, shift by shift.
func data(log, first, size, owner int) []byte {
	var b []byte
	for _, n := range []int{log, first, size, owner} {
		b = append(b, byte(n), byte(n>>8), byte(n>>16), byte(n>>24))
	}
	return b
}

// unsealed answers the 60 bytes that the document says a super has ahead of its sum.
func unsealed(s api.Super) []byte {
	b := make([]byte, 60)
	b[0], b[1] = 1, 16
	for i := range 4 {
		b[4+i], b[8+i] = byte(s.Gen>>(8*i)), byte(s.Blocks>>(8*i))
	}
	copy(b[12:], data(s.Log, s.Man.First, s.Man.Size, s.Man.Owner))
	return b
}

// blockOf answers what a block holds behind a Write of s.
func blockOf(s api.Super) []byte {
	return append(crc.Seal(unsealed(s)), make([]byte, 192)...)
}

func filled(n, seed int) []byte {
	b := make([]byte, n)
	for i := range b {
		b[i] = byte(1 + (i*7+i/64*5+seed*53)%255)
	}
	return b
}

// holding answers a disk whose blocks 0 and 1 begin with these bytes, all else of it zero.
func holding(t *testing.T, blocks int, zero, one []byte) *disk.Disk {
	t.Helper()
	image := make([]byte, blocks*256)
	copy(image[:256], zero)
	copy(image[256:512], one)
	d, e := disk.Load(image)
	if e != api.OK {
		t.Fatalf("Load: %d", e)
	}
	return d
}

func blank(t *testing.T, blocks int) *disk.Disk {
	t.Helper()
	return holding(t, blocks, nil, nil)
}

// written fails unless a Write is done.
func written(t *testing.T, d *disk.Disk, s api.Super) {
	t.Helper()
	if e := super.Write(d, s); e != api.OK {
		t.Fatalf("Write(%+v): %d", s, e)
	}
}

// reads fails unless that super is read, and the disk is left as it was.
func reads(t *testing.T, why string, d *disk.Disk, want api.Super) {
	t.Helper()
	image, waits, stat := d.Image(), d.Waits(), d.Stat()
	s, e := super.Read(d)
	if e != api.OK || s != want {
		t.Fatalf("%s: Read: %+v, %d, want %+v", why, s, e, want)
	}
	stat.Reads += 2
	if !bytes.Equal(d.Image(), image) || d.Waits() != waits || d.Stat() != stat {
		t.Fatalf("%s: Read has left %+v, want %+v", why, d.Stat(), stat)
	}
}

// readsNone fails unless Read is refused so, with nothing beside it.
func readsNone(t *testing.T, why string, d *disk.Disk, want api.Errno) {
	t.Helper()
	if s, e := super.Read(d); e != want || s != (api.Super{}) {
		t.Fatalf("%s: Read: %+v, %d, want %d", why, s, e, want)
	}
}

// notGot fails unless bytes are refused so, with nothing beside it.
func notGot(t *testing.T, why string, b []byte, want api.Errno) {
	t.Helper()
	if s, e := super.Get(b); e != want || s != (api.Super{}) {
		t.Fatalf("%s: Get(%x): %+v, %d, want %d", why, b, s, e, want)
	}
}

// refused fails unless a Write is refused so, and the disk is as it was.
func refused(t *testing.T, why string, d *disk.Disk, s api.Super, want api.Errno) {
	t.Helper()
	image, safe, waits, stat, off := d.Image(), d.Safe(), d.Waits(), d.Stat(), d.Off()
	if e := super.Write(d, s); e != want {
		t.Fatalf("%s: Write(%+v): %d, want %d", why, s, e, want)
	}
	if !bytes.Equal(d.Image(), image) || !bytes.Equal(d.Safe(), safe) || d.Waits() != waits || d.Stat() != stat || d.Off() != off {
		t.Fatalf("%s: a Write that is refused has changed the disk", why)
	}
}

// 8.1: each field's bytes, to the letter, and the sum behind them.
func TestPutToTheLetter(t *testing.T) {
	for _, c := range []struct {
		s    api.Super
		want string
	}{
		{api.Super{Gen: 7, Blocks: 16, Log: 3, Man: api.Part{First: 9, Size: 40, Owner: 5}},
			"01" + "10" + "0000" + "07000000" + "10000000" + "03000000" + "09000000" + "28000000" + "05000000" + strings.Repeat("00", 32)},
		{api.Super{Gen: 1, Blocks: 1024, Log: 1},
			"01" + "10" + "0000" + "01000000" + "00040000" + "01000000" + strings.Repeat("00", 44)},
		{api.Super{Gen: api.MaxNum, Blocks: 1023, Log: 0x01020304, Man: api.Part{First: 0x0203, Size: 0x030201, Owner: 0x12345678}},
			"01" + "10" + "0000" + "ffffff7f" + "ff030000" + "04030201" + "03020000" + "01020300" + "78563412" + strings.Repeat("00", 32)},
	} {
		b, e := super.Put(c.s)
		if e != api.OK || len(b) != 64 || hex.EncodeToString(b[:60]) != c.want {
			t.Fatalf("Put(%+v): %x, %d, want %s", c.s, b, e, c.want)
		}
		if opened, e := crc.Open(b); e != api.OK || len(opened) != 60 {
			t.Fatalf("Put(%+v): %x is not sealed", c.s, b)
		}
	}
}

// 8.1: whatever may be is put as the document says, and got; it is the sector that the document tells.
func TestPutAndGet(t *testing.T) {
	for _, s := range goods() {
		if e := super.Check(s); e != api.OK {
			t.Fatalf("Check(%+v): %d", s, e)
		}
		b, e := super.Put(s)
		if want := crc.Seal(unsealed(s)); e != api.OK || !bytes.Equal(b, want) {
			t.Fatalf("Put(%+v): %x, %d, want %x", s, b, e, want)
		}
		if got, e := super.Get(b); e != api.OK || got != s {
			t.Fatalf("Get(%x): %+v, %d, want %+v", b, got, e, s)
		}
		p, e := sector.Get(b)
		if e != api.OK || p.Kind != api.KindSuper || p.Epoch != s.Gen || p.Number != s.Blocks || p.Left != 0 || len(p.Data) != 16 {
			t.Fatalf("the sector of %+v: %+v, %d", s, p, e)
		}
	}
}

// 8.1: a super of which one field alone may not be is neither checked nor put.
func TestRefused(t *testing.T) {
	l := []api.Super{{}, {Gen: -1, Blocks: -1, Log: -1, Man: api.Part{First: -1, Size: -1, Owner: -1}}}
	for _, good := range []api.Super{
		{Gen: 1, Blocks: 16, Log: 1},
		{Gen: 7, Blocks: 16, Log: 3, Man: api.Part{First: 9, Size: 40, Owner: 5}},
		{Gen: 20, Blocks: 1024, Log: 20, Man: api.Part{First: 1023, Size: 1 << 18, Owner: 20}},
		{Gen: api.MaxNum, Blocks: 100, Log: api.MaxNum, Man: api.Part{First: 2, Size: 1, Owner: api.MaxNum}},
	} {
		if e := super.Check(good); e != api.OK {
			t.Fatalf("Check(%+v): %d", good, e)
		}
		l = append(l, bads(good)...)
	}
	for _, s := range l {
		if e := super.Check(s); e != api.ErrArg {
			t.Fatalf("Check(%+v): %d, want ErrArg", s, e)
		}
		if b, e := super.Put(s); e != api.ErrArg || len(b) != 0 {
			t.Fatalf("Put(%+v): %x, %d, want ErrArg", s, b, e)
		}
	}
}

// 8.1: bytes that are no sector's are refused as 7's Get does it.
func TestGetOfNoSector(t *testing.T) {
	whole := crc.Seal(unsealed(api.Super{Gen: 7, Blocks: 16, Log: 3}))
	long := append(bytes.Clone(whole), make([]byte, 256)...)
	notGot(t, "nil", nil, api.ErrSize)
	for size := range len(long) {
		if size != 64 {
			notGot(t, "a super's, cut or with more", long[:size], api.ErrSize)
			notGot(t, "any", filled(size, size), api.ErrSize)
		}
	}
	notGot(t, "zeros", make([]byte, 64), api.ErrSum)
	notGot(t, "any", filled(64, 3), api.ErrSum)
	for i := range whole {
		b := bytes.Clone(whole)
		b[i]++
		notGot(t, "one byte changed", b, api.ErrSum)
	}
	notGot(t, "sealed zeros", crc.Seal(make([]byte, 60)), api.ErrForm)
	for _, place := range []int{7, 11} {
		b := unsealed(api.Super{Gen: 7, Blocks: 16, Log: 3})
		b[place] = 128
		notGot(t, "an Epoch or a Number that is none", crc.Seal(b), api.ErrForm)
	}
	b := unsealed(api.Super{Gen: 7, Blocks: 16, Log: 3})
	b[59] = 1
	notGot(t, "a byte behind Data", crc.Seal(b), api.ErrForm)
	b[59], b[1] = 0, 49
	notGot(t, "Data of 49 bytes", crc.Seal(b), api.ErrForm)
}

// 8.1: a sector that may be, but is no super's: another Kind, a Left, Data of another size.
func TestGetOfAnotherSector(t *testing.T) {
	good := api.Sector{Kind: 1, Epoch: 7, Number: 16, Data: data(3, 9, 40, 5)}
	form := func(s api.Sector) {
		t.Helper()
		b, e := sector.Put(s)
		if e != api.OK {
			t.Fatalf("7's Put(%+v): %d", s, e)
		}
		notGot(t, "no super's", b, api.ErrForm)
	}
	for kind := 2; kind < 256; kind++ {
		s := good
		s.Kind = kind
		form(s)
	}
	for _, left := range []int{1, 2, 255, 256, 65535} {
		s := good
		s.Left = left
		form(s)
	}
	for size := range 49 {
		s := good
		s.Data = append(bytes.Clone(good.Data), make([]byte, 32)...)[:size]
		if size != 16 {
			form(s)
			s.Data = append(data(3, 0, 0, 0), make([]byte, 32)...)[:size]
			form(s)
		}
	}
	s := good
	s.Data = append(data(3, 9, 40, 5), 1)
	form(s)
}

// 8.1: a sector as a super's, of which one field says what no super may say, or what is no number.
func TestGetOfWhatMayNotBe(t *testing.T) {
	for _, good := range []api.Super{
		{Gen: 1, Blocks: 16, Log: 1},
		{Gen: 7, Blocks: 16, Log: 3, Man: api.Part{First: 9, Size: 40, Owner: 5}},
		{Gen: 20, Blocks: 1024, Log: 20, Man: api.Part{First: 1023, Size: 1 << 18, Owner: 20}},
	} {
		for _, s := range bads(good) {
			l := []int{s.Gen, s.Blocks, s.Log, s.Man.First, s.Man.Size, s.Man.Owner}
			fits := true
			for _, n := range l {
				fits = fits && n >= 0 && n < 1<<32
			}
			if fits { // else its lowest bytes may be those of one that may be
				notGot(t, "what may not be", crc.Seal(unsealed(s)), api.ErrForm)
			}
		}
		for field := range 6 {
			for _, high := range []byte{128, 129, 255} {
				b := unsealed(good)
				b[7+4*field] = high
				notGot(t, "no number", crc.Seal(b), api.ErrForm)
				copy(b[4+4*field:], []byte{255, 255, 255, 255})
				notGot(t, "no number", crc.Seal(b), api.ErrForm)
			}
		}
	}
	notGot(t, "no Man, but zeros of more than a number", crc.Seal(unsealed(api.Super{Gen: 7, Blocks: 16, Log: 3, Man: api.Part{First: 1 << 31, Size: 1 << 31, Owner: 1 << 31}})), api.ErrForm)
}

// 8.1: of any sealed bytes Get answers a super just where these are its bytes.
func TestGetOfAnySealedBytes(t *testing.T) {
	r := rand.New(rand.NewSource(8))
	l := goods()
	known := 0
	for range 30000 {
		b := unsealed(l[r.Intn(len(l))])
		for range r.Intn(3) {
			b[r.Intn(30)] = []byte{0, 1, 2, 4, 16, 17, 127, 128, 255, byte(r.Intn(256))}[r.Intn(10)]
		}
		sealed := crc.Seal(b)
		s, e := super.Get(sealed)
		if e == api.OK {
			known++
			if got, e := super.Put(s); e != api.OK || !bytes.Equal(got, sealed) || super.Check(s) != api.OK {
				t.Fatalf("Get(%x): %+v, and put again: %x", sealed, s, got)
			}
			continue
		}
		at := func(place int) int {
			return int(b[place]) | int(b[place+1])<<8 | int(b[place+2])<<16 | int(b[place+3])<<24
		}
		like := api.Super{Gen: at(4), Blocks: at(8), Log: at(12), Man: api.Part{First: at(16), Size: at(20), Owner: at(24)}}
		right := super.Check(like) == api.OK && bytes.Equal(unsealed(like), b)
		if e != api.ErrForm || s != (api.Super{}) || right {
			t.Fatalf("Get(%x): %+v, %d", sealed, s, e)
		}
	}
	if known < 5000 || known > 29000 {
		t.Fatalf("%d of them were supers", known)
	}
}

// 8.2: the document's example: a Write of Gen 7 goes to block 1; block 0 stays as it was.
func TestWriteExample(t *testing.T) {
	d := blank(t, 16)
	s := api.Super{Gen: 7, Blocks: 16, Log: 3, Man: api.Part{First: 9, Size: 40, Owner: 7}}
	written(t, d, s)
	want := append(make([]byte, 256), blockOf(s)...)
	want = append(want, make([]byte, 14*256)...)
	if !bytes.Equal(d.Image(), want) {
		t.Fatalf("block 0: %x, block 1: %x", d.Image()[:256], d.Image()[256:512])
	}
	reads(t, "Gen 7", d, s)
}

// 8.2: a Write goes to the slot of its Gen's rest: its bytes, zero bytes behind them; nothing else is touched; one Write, one Flush, nothing waits.
func TestWrite(t *testing.T) {
	for _, s := range goods() {
		if s.Man.Size > 2 || s.Blocks > 17 && s.Blocks < 1024 || s.Blocks == 1024 && s.Log != s.Gen {
			continue // these go to the same places
		}
		d, e := disk.Load(filled(s.Blocks*256, s.Gen))
		if e != api.OK {
			t.Fatal(e)
		}
		want := d.Image()
		copy(want[s.Gen%2*256:], blockOf(s))
		written(t, d, s)
		if !bytes.Equal(d.Safe(), want) || !bytes.Equal(d.Image(), want) {
			t.Fatalf("Write(%+v) has made block 0 %x, block 1 %x", s, d.Safe()[:256], d.Safe()[256:512])
		}
		if d.Waits() != 0 || d.Stat() != (api.Stat{Writes: 1, Flushes: 1}) {
			t.Fatalf("Write(%+v): %d wait, %+v", s, d.Waits(), d.Stat())
		}
		reads(t, "written", d, s)
	}
}

// 8.2: what others wrote ahead, and did not flush, is safe with it.
func TestWriteFlushesAll(t *testing.T) {
	d := blank(t, 16)
	d.Write(5, filled(256, 5))
	d.Write(0, filled(256, 6))
	s := api.Super{Gen: 3, Blocks: 16, Log: 1}
	written(t, d, s)
	if !bytes.Equal(d.Safe()[5*256:6*256], filled(256, 5)) || !bytes.Equal(d.Safe()[:256], filled(256, 6)) || d.Waits() != 0 {
		t.Fatal("something waits")
	}
	d.Crash(nil)
	reads(t, "behind a crash", d, s)
}

// 8.2: one Gen behind the other, each is read; each leaves the slot of the one ahead as it was.
func TestWriteOneBehindTheOther(t *testing.T) {
	d := blank(t, 20)
	readsNone(t, "a blank disk", d, api.ErrNone)
	for gen := 1; gen < 40; gen++ {
		s := api.Super{Gen: gen, Blocks: 20, Log: (gen + 1) / 2}
		if gen%3 == 0 {
			s.Man = api.Part{First: 2 + gen%18, Size: gen * 1000, Owner: gen}
		}
		other := (gen + 1) % 2 * 256
		was := d.Image()[other : other+256]
		written(t, d, s)
		if !bytes.Equal(d.Image()[other:other+256], was) {
			t.Fatalf("Write of Gen %d has changed the other slot", gen)
		}
		reads(t, "the next one", d, s)
		d.Crash(nil)
		reads(t, "behind a crash", d, s)
	}
}

// 8.2: a Gen may be written that is not one greater: the greater one is read, wherever it is.
func TestGreaterGen(t *testing.T) {
	for _, pair := range [][2]int{{2, 1}, {2, 3}, {8, 1}, {8, 7}, {8, 9}, {2, 255}, {256, 255}, {256, 257}, {65536, 255}, {2, api.MaxNum}, {api.MaxNum - 1, api.MaxNum}, {api.MaxNum - 1, api.MaxNum - 2}, {api.MaxNum - 1, 1}} {
		even := api.Super{Gen: pair[0], Blocks: 16, Log: 1, Man: api.Part{First: 2, Size: 3, Owner: 1}}
		odd := api.Super{Gen: pair[1], Blocks: 16, Log: 1}
		want := even
		if odd.Gen > even.Gen {
			want = odd
		}
		reads(t, "both", holding(t, 16, blockOf(even), blockOf(odd)), want)
		for _, first := range []api.Super{even, odd} {
			d := blank(t, 16)
			written(t, d, first)
			reads(t, "one", d, first)
			for _, s := range []api.Super{even, odd} {
				written(t, d, s)
			}
			reads(t, "both, written", d, want)
		}
	}
	d := blank(t, 16) // a lesser Gen of the same slot takes the place of a greater one
	written(t, d, api.Super{Gen: 9, Blocks: 16, Log: 1})
	written(t, d, api.Super{Gen: 3, Blocks: 16, Log: 2})
	reads(t, "a lesser one", d, api.Super{Gen: 3, Blocks: 16, Log: 2})
}

// 8.2: where one slot counts it is read, whatever the other one is; and whatever stands behind the slot in its block.
func TestOneSlotCounts(t *testing.T) {
	even := api.Super{Gen: 8, Blocks: 16, Log: 1, Man: api.Part{First: 2, Size: 3, Owner: 1}}
	odd := api.Super{Gen: 7, Blocks: 16, Log: 2}
	torn := blockOf(api.Super{Gen: 20, Blocks: 16, Log: 1})
	torn[63]++
	oddTorn := blockOf(api.Super{Gen: 21, Blocks: 16, Log: 1})
	oddTorn[5]++
	others := [][]byte{
		nil, filled(256, 1), bytes.Repeat([]byte{255}, 256), torn, oddTorn, crc.Seal(make([]byte, 60)),
		blockOf(api.Super{Gen: 100, Blocks: 17, Log: 1}), blockOf(api.Super{Gen: 101, Blocks: 17, Log: 1}), // of another disk
		blockOf(api.Super{Gen: 100, Blocks: 16, Log: 101}), blockOf(api.Super{Gen: 101, Blocks: 16}), // that may not be
	}
	for i, other := range others {
		reads(t, "block 0 counts", holding(t, 16, blockOf(even), other), even)
		reads(t, "block 1 counts", holding(t, 16, other, blockOf(odd)), odd)
		both := holding(t, 16, append(blockOf(even)[:64], filled(192, i)...), other)
		reads(t, "bytes behind the slot", both, even)
		both = holding(t, 16, other, append(blockOf(odd)[:64], filled(192, i)...))
		reads(t, "bytes behind the slot", both, odd)
	}
	// The greater Gen stands in the wrong slot: it does not count.
	reads(t, "two even ones", holding(t, 16, blockOf(even), blockOf(api.Super{Gen: 100, Blocks: 16, Log: 1})), even)
	reads(t, "two odd ones", holding(t, 16, blockOf(api.Super{Gen: 101, Blocks: 16, Log: 1}), blockOf(odd)), odd)
}

// 8.2: a super in the wrong block, of another number of blocks, or past the first sector, does not count.
func TestNoSlotCounts(t *testing.T) {
	even := blockOf(api.Super{Gen: 8, Blocks: 16, Log: 1})
	odd := blockOf(api.Super{Gen: 7, Blocks: 16, Log: 1})
	readsNone(t, "both in the wrong block", holding(t, 16, odd, even), api.ErrRot)
	readsNone(t, "an odd one in block 0", holding(t, 16, odd, nil), api.ErrRot)
	readsNone(t, "an even one in block 1", holding(t, 16, nil, even), api.ErrRot)
	readsNone(t, "of fewer blocks", holding(t, 17, even, odd), api.ErrRot)
	readsNone(t, "of more blocks", holding(t, 16, blockOf(api.Super{Gen: 8, Blocks: 17, Log: 1}), blockOf(api.Super{Gen: 7, Blocks: 1024, Log: 1})), api.ErrRot)
	for k := 1; k < 4; k++ {
		readsNone(t, "in another sector", holding(t, 16, append(make([]byte, 64*k), even[:64]...), append(make([]byte, 64*k), odd[:64]...)), api.ErrRot)
	}
	d := blank(t, 16)
	d.Write(2, even)
	d.Write(3, odd)
	readsNone(t, "in the blocks behind", d, api.ErrNone)
}

// 8.2: ErrNone where both blocks are zero bytes alone, whatever the others are; ErrRot by one byte, anywhere in them.
func TestNoneOrRot(t *testing.T) {
	for _, blocks := range []int{16, 17, 1024} {
		readsNone(t, "blank", blank(t, blocks), api.ErrNone)
		image := filled(blocks*256, 4)
		clear(image[:512])
		d, _ := disk.Load(image)
		readsNone(t, "blank, but bytes in other blocks", d, api.ErrNone)
		d, _ = disk.Load(filled(blocks*256, 5))
		readsNone(t, "any", d, api.ErrRot)
	}
	for place := range 512 {
		for _, x := range []byte{1, 128, 255} {
			image := make([]byte, 16*256)
			image[place] = x
			d, _ := disk.Load(image)
			readsNone(t, "one byte", d, api.ErrRot)
		}
	}
	image := make([]byte, 16*256)
	image[512] = 1
	d, _ := disk.Load(image)
	readsNone(t, "the first byte behind them", d, api.ErrNone)
	readsNone(t, "zero bytes that are sealed", holding(t, 16, crc.Seal(make([]byte, 60)), nil), api.ErrRot)
}

// 8.2: what is read is what was written last, flushed or not; behind a crash what was flushed, or kept.
func TestReadOfWhatWaits(t *testing.T) {
	d := blank(t, 16)
	a, b := api.Super{Gen: 1, Blocks: 16, Log: 1}, api.Super{Gen: 2, Blocks: 16, Log: 2}
	written(t, d, a)
	d.Write(0, blockOf(b))
	reads(t, "it waits", d, b)
	lost, kept := d.Clone(), d.Clone()
	lost.Crash(nil)
	reads(t, "it is lost", lost, a)
	kept.Crash([]int{1})
	reads(t, "its sector is kept", kept, b)
}

// 8.2: of the errors of Write the disk that is none comes first, then Check's, then the number of blocks, then the disk's; and nothing changes.
func TestWriteRefused(t *testing.T) {
	good := api.Super{Gen: 7, Blocks: 16, Log: 3, Man: api.Part{First: 9, Size: 40, Owner: 5}}
	other := api.Super{Gen: 8, Blocks: 17, Log: 8}
	d := blank(t, 16)
	written(t, d, api.Super{Gen: 6, Blocks: 16, Log: 1})
	d.Write(4, filled(256, 4)) // and this waits on
	for _, s := range bads(good) {
		refused(t, "may not be", d, s, api.ErrArg)
	}
	refused(t, "zero", d, api.Super{}, api.ErrArg)
	for _, blocks := range []int{17, 18, 255, 256, 1024} {
		s := good
		s.Blocks = blocks
		refused(t, "other Blocks", d, s, api.ErrArg)
	}
	refused(t, "fewer Blocks", blank(t, 17), good, api.ErrArg)
	refused(t, "fewer Blocks", blank(t, 1024), good, api.ErrArg)

	d.Stop(0)
	d.Flush()
	refused(t, "off", d, good, api.ErrOff)
	refused(t, "off, and it may not be", d, api.Super{Gen: 7, Blocks: 16, Log: 8}, api.ErrArg)
	refused(t, "off, and other Blocks", d, other, api.ErrArg)
	readsNone(t, "off", d, api.ErrOff)
	d.Crash([]int{15})
	reads(t, "on again", d, api.Super{Gen: 6, Blocks: 16, Log: 1})

	// What is refused ahead of the disk is no deed.
	d.Stop(2)
	refused(t, "may not be", d, api.Super{}, api.ErrArg)
	refused(t, "other Blocks", d, other, api.ErrArg)
	written(t, d, good)
	if e := d.Flush(); e != api.ErrOff {
		t.Fatalf("a Write took other deeds than two: %d", e)
	}
}

// 8.2, R1: on a disk that is none, ErrClosed ahead of all else.
func TestNil(t *testing.T) {
	readsNone(t, "nil", nil, api.ErrClosed)
	for _, s := range []api.Super{{}, {Gen: 7, Blocks: 16, Log: 3}, {Gen: 7, Blocks: 0, Log: 9}} {
		if e := super.Write(nil, s); e != api.ErrClosed {
			t.Fatalf("Write(nil, %+v): %d", s, e)
		}
	}
}

// stopped has the power go at one of the deeds of a Write of s, and keeps behind the crash what the masks say.
func stopped(t *testing.T, d *disk.Disk, s api.Super, stop int, masks []int) *disk.Disk {
	t.Helper()
	d = d.Clone()
	d.Stop(stop)
	if e := super.Write(d, s); e != api.ErrOff || !d.Off() {
		t.Fatalf("Write, stopped at deed %d: %d", stop, e)
	}
	if d.Waits() != 1 { // behind a Write that was refused nothing more is done
		t.Fatalf("Write, stopped at deed %d: %d wait", stop, d.Waits())
	}
	readsNone(t, "off", d, api.ErrOff)
	d.Crash(masks)
	return d
}

// 8.2, 8.3: the power goes at the write or the flush of Write, any sectors are kept: what is read behind it is the one that was, or s.
func TestPowerGoes(t *testing.T) {
	for gen := 1; gen < 6; gen++ {
		d := blank(t, 16)
		var was api.Super
		for g := 1; g < gen; g++ {
			was = api.Super{Gen: g, Blocks: 16, Log: g, Man: api.Part{First: 2 + g, Size: g, Owner: g}}
			written(t, d, was)
		}
		s := api.Super{Gen: gen, Blocks: 16, Log: 1}
		for stop := range 2 {
			for mask := -1; mask < 32; mask++ {
				c := stopped(t, d, s, stop, []int{mask, 15})
				switch {
				case mask&1 == 1:
					reads(t, "its sector is kept", c, s)
				case was == api.Super{}:
					readsNone(t, "there was none", c, api.ErrNone)
				default:
					reads(t, "its sector is lost", c, was)
				}
				written(t, c, s) // and it may be written again
				reads(t, "again", c, s)
			}
			c := stopped(t, d, s, stop, nil)
			if !bytes.Equal(c.Image(), d.Safe()) {
				t.Fatal("nothing was kept, but there is something")
			}
		}
		d.Stop(2)
		written(t, d, s)
		d.Crash([]int{0})
		reads(t, "behind the flush", d, s)
	}
}

// 8.3: so it is again and again: each Write one Gen greater than what Read tells, at any deed of which the power may go.
func TestPowerGoesAgainAndAgain(t *testing.T) {
	r := rand.New(rand.NewSource(83))
	for range 200 {
		d := blank(t, 16)
		var was api.Super
		for range 30 {
			s := api.Super{Gen: was.Gen + 1, Blocks: 16, Log: 1 + r.Intn(was.Gen+1)}
			if r.Intn(2) == 0 {
				s.Man = api.Part{First: 2 + r.Intn(14), Size: 1 + r.Intn(1<<18), Owner: 1 + r.Intn(s.Gen)}
			}
			if r.Intn(3) == 0 {
				d.Write(2+r.Intn(14), filled(256, r.Intn(99)))
			}
			d.Stop(r.Intn(4))
			e := super.Write(d, s)
			masks := []int{r.Intn(16), r.Intn(16), r.Intn(16)}
			d.Crash(masks)
			got, f := super.Read(d)
			if e == api.OK && got != s || got != s && got != was || f != api.OK && (f != api.ErrNone || was != api.Super{}) {
				t.Fatalf("Write(%+v): %d; behind it %+v, %d; ahead of it %+v", s, e, got, f, was)
			}
			was = got
		}
	}
}

// counts answers by the document's words alone whether bytes are those of a super that counts in that block.
func counts(b []byte, block, blocks int) (api.Super, bool) {
	s, e := super.Get(b[:64])
	return s, e == api.OK && s.Blocks == blocks && s.Gen%2 == block
}

// 8.2: over slots of all kinds Read tells what the document's words tell.
func TestReadOfAnySlots(t *testing.T) {
	r := rand.New(rand.NewSource(82))
	some := func() []byte {
		s := api.Super{Gen: 1 + r.Intn(6), Blocks: 16 + r.Intn(5)/4, Log: 1, Man: api.Part{First: 2 + r.Intn(3), Size: 1 + r.Intn(3), Owner: 1}}
		b := blockOf(s)
		switch r.Intn(8) {
		case 0:
			clear(b)
		case 1:
			b[r.Intn(256)]++
		case 2:
			b = filled(256, r.Intn(9))
		case 3:
			clear(b[:64*(1+r.Intn(4))])
		}
		return b
	}
	told := map[api.Errno]int{}
	for range 5000 {
		blocks := [][]byte{some(), some()}
		var want api.Super
		for i, b := range blocks {
			if s, ok := counts(b, i, 16); ok && s.Gen > want.Gen {
				want = s
			}
		}
		d := holding(t, 16, blocks[0], blocks[1])
		e := api.OK
		switch {
		case want != api.Super{}:
			reads(t, "any", d, want)
		case len(bytes.Trim(bytes.Join(blocks, nil), "\x00")) == 0:
			e = api.ErrNone
			readsNone(t, "any", d, e)
		default:
			e = api.ErrRot
			readsNone(t, "any", d, e)
		}
		told[e]++
	}
	if told[api.OK] < 500 || told[api.ErrNone] < 20 || told[api.ErrRot] < 500 {
		t.Fatalf("%v", told)
	}
}

// R4: what is handed in is not changed, nor the room behind it; what is handed out is new.
func TestBytesStandAlone(t *testing.T) {
	s := api.Super{Gen: 7, Blocks: 16, Log: 3, Man: api.Part{First: 9, Size: 40, Owner: 5}}
	b, _ := super.Put(s)
	was := bytes.Clone(b)
	room := append(bytes.Clone(b), filled(64, 1)...)
	if got, e := super.Get(room[:64]); e != api.OK || got != s || !bytes.Equal(room, append(bytes.Clone(was), filled(64, 1)...)) {
		t.Fatalf("Get: %+v, %d; it has changed to %x", got, e, room)
	}
	clear(b)
	if again, e := super.Put(s); e != api.OK || !bytes.Equal(again, was) {
		t.Fatalf("put again: %x, %d", again, e)
	}
}
