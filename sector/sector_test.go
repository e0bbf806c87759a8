package sector_test

import (
	"bytes"
	"encoding/hex"
	"math"
	"math/rand"
	"slices"
	"strings"
	"testing"

	"chantry/api"
	"chantry/crc"
	"chantry/sector"
)

// filled answers n bytes, none of them zero, and none as those near it.
func filled(n, seed int) []byte {
	b := make([]byte, n)
	for i := range b {
		b[i] = byte(1 + (i*7+i/48*5+seed*53)%255)
	}
	return b
}

// outside are ints that are below all fields of a sector, or past them: near and far, and such as seem right in fewer bits.
var outside = []int{
	-1, -2, -255, -256, -65535, -65536, math.MinInt32 + 1, math.MinInt32, -1<<32 + 1, -1 << 32, math.MinInt + 1, math.MinInt,
	1 << 31, 1<<31 + 1, 1<<32 - 1, 1 << 32, 1<<32 + 1, 1 << 40, 1<<56 + 1, math.MaxInt - 1, math.MaxInt,
}

// Ints that a field may have, with its edges, and that it may not.
var (
	kinds   = []int{1, 2, 3, 127, 128, 254, 255}
	lefts   = []int{0, 1, 255, 256, 257, 32767, 32768, 65534, 65535}
	numbers = []int{0, 1, 255, 256, 65535, 65536, 1<<24 - 1, 1 << 24, 0x12345678, 1 << 30, api.MaxNum - 1, api.MaxNum}

	noKinds = append([]int{0, 256, 257, 511, 512, 65536 + 1, 1 << 24}, outside...)
	noLefts = append([]int{65536, 65537, 1<<17 - 1, 1 << 17, 1 << 24}, outside...)
)

func same(a, b api.Sector) bool {
	return a.Kind == b.Kind && a.Epoch == b.Epoch && a.Number == b.Number && a.Left == b.Left && bytes.Equal(a.Data, b.Data)
}

// zero tells whether a sector is as it is where nothing is answered.
func zero(s api.Sector) bool {
	return same(s, api.Sector{}) && len(s.Data) == 0
}

// unsealed answers the 60 bytes that the document says a sector has ahead of its sum, shift by shift.
func unsealed(s api.Sector) []byte {
	b := make([]byte, 60)
	b[0], b[1] = byte(s.Kind), byte(len(s.Data))
	b[2], b[3] = byte(s.Left), byte(s.Left>>8)
	for i := range 4 {
		b[4+i], b[8+i] = byte(s.Epoch>>(8*i)), byte(s.Number>>(8*i))
	}
	copy(b[12:], s.Data)
	return b
}

func put(t *testing.T, s api.Sector) []byte {
	t.Helper()
	b, e := sector.Put(s)
	if e != api.OK || len(b) != 64 {
		t.Fatalf("Put(%+v): %x, %d", s, b, e)
	}
	return b
}

// putAndGot fails unless a sector has the bytes that the document says, and is got from them.
func putAndGot(t *testing.T, s api.Sector) {
	t.Helper()
	b := put(t, s)
	if want := crc.Seal(unsealed(s)); !bytes.Equal(b, want) {
		t.Fatalf("Put(%+v): %x, want %x", s, b, want)
	}
	if got, e := sector.Get(b); e != api.OK || !same(got, s) {
		t.Fatalf("Get(%x): %+v, %d, want %+v", b, got, e, s)
	}
}

func notPut(t *testing.T, s api.Sector) {
	t.Helper()
	if b, e := sector.Put(s); e != api.ErrArg || len(b) != 0 {
		t.Fatalf("Put(%+v): %x, %d, want ErrArg", s, b, e)
	}
}

// notGot fails unless bytes are refused so, with nothing beside it.
func notGot(t *testing.T, why string, b []byte, want api.Errno) {
	t.Helper()
	if s, e := sector.Get(b); e != want || !zero(s) {
		t.Fatalf("%s: Get(%x): %+v, %d, want %d", why, b, s, e, want)
	}
}

// 7.1: each field's bytes, to the letter, and the sum behind them.
func TestPutToTheLetter(t *testing.T) {
	for _, c := range []struct {
		s    api.Sector
		want string
	}{
		{api.Sector{Kind: 1, Number: 7, Data: []byte("ab")},
			"01" + "02" + "0000" + "00000000" + "07000000" + "6162" + strings.Repeat("00", 46) + "45ce9e77"},
		{api.Sector{Kind: 1},
			"01" + "00" + "0000" + "00000000" + "00000000" + strings.Repeat("00", 48) + "6aa1b02f"},
		{api.Sector{Kind: 2, Epoch: 0x12345678, Number: 0x01020304, Left: 0x1234, Data: bytes.Repeat([]byte("x"), 47)},
			"02" + "2f" + "3412" + "78563412" + "04030201" + strings.Repeat("78", 47) + "00" + "3c0402e5"},
		{api.Sector{Kind: 255, Epoch: api.MaxNum, Number: api.MaxNum, Left: 65535, Data: slices.Concat([]byte("\x01\x02\x03\x04\x05\x06\x07\x08\x09\x0a\x0b\x0c\x0d\x0e\x0f\x10"), []byte("0123456789abcdefghijklmnopqrstuv"))},
			"ff" + "30" + "ffff" + "ffffff7f" + "ffffff7f" + "0102030405060708090a0b0c0d0e0f10" + "303132333435363738396162636465666768696a6b6c6d6e6f70717273747576" + "100e7f2c"},
	} {
		if got := hex.EncodeToString(put(t, c.s)); got != c.want {
			t.Errorf("Put(%+v):\n%s, want\n%s", c.s, got, c.want)
		}
		want, _ := hex.DecodeString(c.want)
		if got, e := sector.Get(want); e != api.OK || !same(got, c.s) {
			t.Errorf("Get(%s): %+v, %d, want %+v", c.want, got, e, c.s)
		}
	}
}

// 7.1, 7.3: whatever may be is put as the document says, and got: all Kinds, the edges of all fields, Data of all sizes.
func TestPutAndGet(t *testing.T) {
	for _, kind := range kinds {
		for _, left := range lefts {
			for _, epoch := range numbers {
				for _, number := range numbers {
					putAndGot(t, api.Sector{Kind: kind, Epoch: epoch, Number: number, Left: left, Data: filled((kind+left+epoch%7+number%11)%49, left)})
				}
			}
		}
	}
	for kind := 1; kind <= 255; kind++ {
		putAndGot(t, api.Sector{Kind: kind, Number: 255 - kind})
	}
	for size := range 49 {
		putAndGot(t, api.Sector{Kind: 9, Epoch: 1, Number: 2, Left: 3, Data: filled(size, size)})
		putAndGot(t, api.Sector{Kind: 9, Data: make([]byte, size)}) // zeros of its own are told from those behind it
		putAndGot(t, api.Sector{Kind: 9, Data: append(make([]byte, size/2), filled(size-size/2, 3)...)})
	}
	for left := 0; left <= 65535; left += 13 {
		putAndGot(t, api.Sector{Kind: 4, Left: left})
	}
}

// 7.1, R3: Data of no bytes may be nil or not.
func TestNoData(t *testing.T) {
	if a, b := put(t, api.Sector{Kind: 1}), put(t, api.Sector{Kind: 1, Data: []byte{}}); !bytes.Equal(a, b) {
		t.Errorf("%x, %x", a, b)
	}
}

// 7.1: a sector of which one field alone may not be is not put, whatever the others are.
func TestPutRefused(t *testing.T) {
	for _, good := range []api.Sector{
		{Kind: 1}, {Kind: 255, Epoch: api.MaxNum, Number: api.MaxNum, Left: 65535, Data: filled(48, 1)}, {Kind: 2, Epoch: 3, Number: 4, Left: 5, Data: filled(6, 7)},
	} {
		putAndGot(t, good)
		for _, n := range noKinds {
			s := good
			s.Kind = n
			notPut(t, s)
		}
		for _, n := range outside {
			s := good
			s.Epoch = n
			notPut(t, s)
			s = good
			s.Number = n
			notPut(t, s)
		}
		for _, n := range noLefts {
			s := good
			s.Left = n
			notPut(t, s)
		}
		for _, n := range []int{49, 50, 64, 255, 256, 256 + 48, 257, 65536, 65536 + 3} {
			s := good
			s.Data = filled(n, 1)
			notPut(t, s)
			s.Data = make([]byte, n)
			notPut(t, s)
		}
	}
	notPut(t, api.Sector{})
	notPut(t, api.Sector{Kind: -1, Epoch: -1, Number: -1, Left: -1, Data: make([]byte, 49)})
}

// 7.1: whatever has not 64 bytes is refused as that, sealed or not, a sector's or not.
func TestGetOfAnotherSize(t *testing.T) {
	whole := put(t, api.Sector{Kind: 1, Number: 7, Data: filled(48, 1)})
	long := append(bytes.Clone(whole), make([]byte, 400)...)
	notGot(t, "nil", nil, api.ErrSize)
	for size := range 321 {
		if size == 64 {
			continue
		}
		notGot(t, "zeros", make([]byte, size), api.ErrSize)
		notGot(t, "a sector's, cut or with more", long[:size], api.ErrSize)
		notGot(t, "any", filled(size, size), api.ErrSize)
		if size >= 4 {
			sealed := unsealed(api.Sector{Kind: 1})
			sealed = append(sealed, make([]byte, 400)...)[:size-4]
			notGot(t, "sealed", crc.Seal(sealed), api.ErrSize)
		}
	}
	notGot(t, "two sectors", append(bytes.Clone(whole), whole...), api.ErrSize)
}

// 7.1: 64 bytes that are not sealed are refused as that, be they else a sector's or not.
func TestGetOfWhatIsNotSealed(t *testing.T) {
	notGot(t, "zeros", make([]byte, 64), api.ErrSum)
	notGot(t, "any", filled(64, 3), api.ErrSum)
	notGot(t, "all ones", bytes.Repeat([]byte{255}, 64), api.ErrSum)
	for _, s := range []api.Sector{{}, {Kind: 1}, {Kind: 255, Left: 9, Data: filled(48, 5)}} {
		b := crc.Seal(unsealed(s))
		for i := range 4 {
			off := bytes.Clone(b)
			off[60+i]++
			notGot(t, "another sum", off, api.ErrSum)
		}
		slices.Reverse(b[60:])
		notGot(t, "a sum the other way round", b, api.ErrSum)
		clear(b[60:])
		notGot(t, "no sum", b, api.ErrSum)
	}
	bad := unsealed(api.Sector{Kind: 1, Data: filled(9, 1)})
	bad[1] = 49
	notGot(t, "neither sealed nor a sector's", append(bad, 1, 2, 3, 4), api.ErrSum)
	inner := crc.Seal(unsealed(api.Sector{Kind: 1})[:56]) // sealed, but 4 bytes behind that
	notGot(t, "sealed ahead of its end", append(inner, 0, 0, 0, 0), api.ErrSum)
}

// 7.1: sealed bytes are refused if they have no Kind, too many bytes of Data, bytes behind these, or what is no number.
func TestGetOfWhatIsNoSector(t *testing.T) {
	form := func(why string, b []byte) {
		t.Helper()
		notGot(t, why, crc.Seal(b), api.ErrForm)
	}
	form("all zero", make([]byte, 60))
	form("all ones", bytes.Repeat([]byte{255}, 60))
	for size := range 49 {
		s := api.Sector{Kind: 1, Epoch: 2, Number: 3, Left: 4, Data: filled(size, size)}
		good := unsealed(s)
		s.Kind = 0
		form("no Kind", unsealed(s))
		for place := 12 + size; place < 60; place++ {
			for _, x := range []byte{1, 2, 127, 128, 255} {
				b := bytes.Clone(good)
				b[place] = x
				form("a byte behind Data", b)
			}
		}
		for less := range size { // all of Data's bytes are none of them zero
			b := bytes.Clone(good)
			b[1] = byte(less)
			form("Data of fewer bytes than there are", b)
		}
		for many := 49; many < 256; many++ {
			b := bytes.Clone(good)
			b[1] = byte(many)
			form("Data of more bytes than there may be", b)
		}
		for _, high := range []byte{128, 129, 200, 255} {
			for _, place := range []int{7, 11} {
				b := bytes.Clone(good)
				b[place] = high
				form("an Epoch or a Number that is none", b)
			}
		}
	}
}

// 7.1: of any sealed bytes Get answers a sector just where these are its bytes.
func TestGetOfAnySealedBytes(t *testing.T) {
	r := rand.New(rand.NewSource(7))
	known := 0
	for range 30000 {
		b := unsealed(api.Sector{Kind: 1 + r.Intn(255), Epoch: r.Intn(1 << 31), Number: r.Intn(1 << 31), Left: r.Intn(1 << 16), Data: filled(r.Intn(49), r.Intn(9))})
		for range r.Intn(3) {
			b[r.Intn(60)] = []byte{0, 1, 48, 49, 127, 128, 255, byte(r.Intn(256))}[r.Intn(8)]
		}
		sealed := crc.Seal(b)
		s, e := sector.Get(sealed)
		if e == api.OK {
			known++
			if got := put(t, s); !bytes.Equal(got, sealed) {
				t.Fatalf("Get(%x): %+v, and put again: %x", sealed, s, got)
			}
			continue
		}
		right := b[0] > 0 && b[1] <= 48 && b[7] < 128 && b[11] < 128 && len(bytes.Trim(b[min(60, 12+int(b[1])):], "\x00")) == 0
		if e != api.ErrForm || !zero(s) || right {
			t.Fatalf("Get(%x): %+v, %d", sealed, s, e)
		}
	}
	if known < 5000 || known > 29000 {
		t.Fatalf("%d of them were sectors", known)
	}
}

// 7.3: bytes of a sector of which some are changed, all within 4 in a row, are no sector's.
func TestChangedBytes(t *testing.T) {
	r := rand.New(rand.NewSource(3))
	for _, s := range []api.Sector{{Kind: 1}, {Kind: 2, Epoch: 3, Number: 4, Left: 5, Data: filled(6, 7)}, {Kind: 255, Epoch: api.MaxNum, Number: api.MaxNum, Left: 65535, Data: filled(48, 1)}} {
		whole := put(t, s)
		for i := range 64 {
			for turn := 1; turn < 256; turn++ { // one byte, to all that it may be
				b := bytes.Clone(whole)
				b[i] ^= byte(turn)
				notGot(t, "one byte changed", b, api.ErrSum)
			}
		}
		for wide := 2; wide <= 4; wide++ {
			for i := range 65 - wide {
				for range 60 {
					b := bytes.Clone(whole)
					for k := range wide {
						b[i+k] ^= byte(1 + r.Intn(255))
					}
					notGot(t, "bytes in a row changed", b, api.ErrSum)
				}
				b := bytes.Clone(whole)
				b[i] ^= 1
				b[i+wide-1] ^= 128 // those in between as they are
				notGot(t, "both ends of a row changed", b, api.ErrSum)
			}
		}
	}
}

// R4: what is handed in is not changed, nor the room behind it; what is handed out is new, and whoever writes to the one does not change the other.
func TestBytesStandAlone(t *testing.T) {
	data := append(make([]byte, 0, 64), "abc"...)
	s := api.Sector{Kind: 3, Data: data}
	b := put(t, s)
	if string(data[:64]) != "abc"+string(make([]byte, 61)) {
		t.Fatalf("Put has changed %x", data[:64])
	}
	was := bytes.Clone(b)
	copy(data, "xyz")
	if !bytes.Equal(b, was) {
		t.Fatalf("what was put has become %x", b)
	}
	clear(b)
	if string(data) != "xyz" {
		t.Fatalf("what was handed in has become %x", data)
	}
	room := append(bytes.Clone(was), make([]byte, 64)...)[:64]
	got, e := sector.Get(room)
	if e != api.OK || string(got.Data) != "abc" || !bytes.Equal(room, was) {
		t.Fatalf("Get: %+v, %d; it has changed to %x", got, e, room)
	}
	clear(room)
	if string(got.Data) != "abc" {
		t.Fatalf("what was got has become %x", got.Data)
	}
	copy(room, was)
	copy(got.Data, "xyz")
	_ = append(got.Data, filled(64, 1)...)
	if !bytes.Equal(room, was) {
		t.Fatalf("what was handed in has become %x", room)
	}
	if again, e := sector.Get(room); e != api.OK || string(again.Data) != "abc" {
		t.Fatalf("got again: %+v, %d", again, e)
	}
}
