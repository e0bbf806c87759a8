package cell_test

import (
	"bytes"
	"encoding/hex"
	"math"
	"math/rand"
	"slices"
	"strings"
	"testing"

	"chantry/api"
	"chantry/cell"
	"chantry/crc"
)

// filled answers n bytes, none of them zero, and none as those near it.
func filled(n, seed int) []byte {
	b := make([]byte, n)
	for i := range b {
		b[i] = byte(1 + (i*7+i/242*5+seed*53)%255)
	}
	return b
}

// outside are ints that are below all fields of a cell, or past them: near and far, and such as seem right in fewer bits.
var outside = []int{
	-1, -2, -255, -256, -65535, -65536, math.MinInt32 + 1, math.MinInt32, -1<<32 + 1, -1 << 32, math.MinInt + 1, math.MinInt,
	1 << 31, 1<<31 + 1, 1<<32 - 1, 1 << 32, 1<<32 + 1, 1 << 40, 1<<56 + 1, math.MaxInt - 1, math.MaxInt,
}

// Ints that a field may have, with its edges, and that it may not; Numbers and Nexts are shorts both.
var (
	owners = []int{1, 2, 255, 256, 65535, 65536, 1<<24 - 1, 1 << 24, 0x12345678, 1 << 30, api.MaxNum - 1, api.MaxNum}
	shorts = []int{0, 1, 255, 256, 257, 32767, 32768, 65534, 65535}

	noOwners = append([]int{0}, outside...)
	noShorts = append([]int{65536, 65537, 1<<17 - 1, 1 << 17, 1 << 24}, outside...)
)

func same(a, b api.Cell) bool {
	return a.Owner == b.Owner && a.Number == b.Number && a.Next == b.Next && bytes.Equal(a.Data, b.Data)
}

// unsealed answers the 252 bytes that the document says a cell has ahead of its sum, shift by shift.
func unsealed(c api.Cell) []byte {
	b := make([]byte, 252)
	for i := range 4 {
		b[i] = byte(c.Owner >> (8 * i))
	}
	for i := range 2 {
		b[4+i], b[6+i], b[8+i] = byte(c.Number>>(8*i)), byte(c.Next>>(8*i)), byte(len(c.Data)>>(8*i))
	}
	copy(b[10:], c.Data)
	return b
}

func put(t *testing.T, c api.Cell) []byte {
	t.Helper()
	b, e := cell.Put(c)
	if e != api.OK || len(b) != 256 {
		t.Fatalf("Put(%+v): %x, %d", c, b, e)
	}
	return b
}

// putAndGot fails unless a cell has the bytes that the document says, and is got from them.
func putAndGot(t *testing.T, c api.Cell) {
	t.Helper()
	b := put(t, c)
	if want := crc.Seal(unsealed(c)); !bytes.Equal(b, want) {
		t.Fatalf("Put(%+v): %x, want %x", c, b, want)
	}
	if got, e := cell.Get(b); e != api.OK || !same(got, c) {
		t.Fatalf("Get(%x): %+v, %d, want %+v", b, got, e, c)
	}
}

func notPut(t *testing.T, c api.Cell) {
	t.Helper()
	if b, e := cell.Put(c); e != api.ErrArg || len(b) != 0 {
		t.Fatalf("Put(%+v): %x, %d, want ErrArg", c, b, e)
	}
}

// notGot fails unless bytes are refused so, with nothing beside it.
func notGot(t *testing.T, why string, b []byte, want api.Errno) {
	t.Helper()
	if c, e := cell.Get(b); e != want || !same(c, api.Cell{}) {
		t.Fatalf("%s: Get(%x): %+v, %d, want %d", why, b, c, e, want)
	}
}

// 9.1: each field's bytes, to the letter, and the sum behind them.
func TestPutToTheLetter(t *testing.T) {
	for _, c := range []struct {
		c    api.Cell
		want string
	}{
		{api.Cell{Owner: 1, Next: 7, Data: []byte("ab")},
			"01000000" + "0000" + "0700" + "0200" + "6162" + strings.Repeat("00", 240)},
		{api.Cell{Owner: 0x12345678, Number: 0x0102, Next: 0xabcd, Data: bytes.Repeat([]byte("x"), 241)},
			"78563412" + "0201" + "cdab" + "f100" + strings.Repeat("78", 241) + "00"},
		{api.Cell{Owner: api.MaxNum, Number: 65535, Next: 65535, Data: append(bytes.Repeat([]byte{0}, 241), 9)},
			"ffffff7f" + "ffff" + "ffff" + "f200" + strings.Repeat("00", 241) + "09"},
		{api.Cell{Owner: 256, Number: 256, Data: []byte{0}},
			"00010000" + "0001" + "0000" + "0100" + strings.Repeat("00", 242)},
	} {
		b := put(t, c.c)
		if got := hex.EncodeToString(b[:252]); got != c.want {
			t.Errorf("Put(%+v):\n%s, want\n%s", c.c, got, c.want)
		}
		want, _ := hex.DecodeString(c.want)
		sum := crc.Sum(want)
		want = append(want, byte(sum), byte(sum>>8), byte(sum>>16), byte(sum>>24))
		if !bytes.Equal(b[252:], want[252:]) {
			t.Errorf("Put(%+v): the sum %x, want %x", c.c, b[252:], want[252:])
		}
		if got, e := cell.Get(want); e != api.OK || !same(got, c.c) {
			t.Errorf("Get(%x): %+v, %d, want %+v", want, got, e, c.c)
		}
	}
}

// 9.1, 9.3: whatever may be is put as the document says, and got: the edges of all fields, Data of all sizes.
func TestPutAndGet(t *testing.T) {
	for _, owner := range owners {
		for i, number := range shorts {
			for j, next := range shorts {
				for _, size := range []int{1, 2 + i*20 + j*9, 242} {
					putAndGot(t, api.Cell{Owner: owner, Number: number, Next: next, Data: filled(size, i+j)})
				}
			}
		}
	}
	for size := 1; size <= 242; size++ {
		putAndGot(t, api.Cell{Owner: 9, Number: 1, Next: 2, Data: filled(size, size)})
		putAndGot(t, api.Cell{Owner: 9, Data: make([]byte, size)}) // zeros of its own are told from those behind it
		putAndGot(t, api.Cell{Owner: 9, Data: append(make([]byte, size/2), filled(size-size/2, 3)...)})
		putAndGot(t, api.Cell{Owner: 9, Data: append(filled(size-size/2, 3), make([]byte, size/2)...)})
	}
	for n := 0; n <= 65535; n += 101 {
		putAndGot(t, api.Cell{Owner: 4, Number: n, Next: 65535 - n, Data: filled(1, n)})
	}
}

// 9.1: a cell of which one field alone may not be is not put, whatever the others are.
func TestPutRefused(t *testing.T) {
	for _, good := range []api.Cell{
		{Owner: 1, Data: []byte{0}}, {Owner: api.MaxNum, Number: 65535, Next: 65535, Data: filled(242, 1)}, {Owner: 2, Number: 3, Next: 4, Data: filled(6, 7)},
	} {
		putAndGot(t, good)
		for _, n := range noOwners {
			c := good
			c.Owner = n
			notPut(t, c)
		}
		for _, n := range noShorts {
			c := good
			c.Number = n
			notPut(t, c)
			c = good
			c.Next = n
			notPut(t, c)
		}
		for _, n := range []int{0, 243, 244, 255, 256, 257, 256 + 242, 65535, 65536, 65537, 65536 + 242} {
			c := good
			c.Data = filled(n, 1)
			notPut(t, c)
			c.Data = make([]byte, n)
			notPut(t, c)
		}
		c := good
		c.Data = nil
		notPut(t, c)
	}
	notPut(t, api.Cell{})
	notPut(t, api.Cell{Owner: -1, Number: -1, Next: -1, Data: make([]byte, 243)})
}

// 9.1: whatever has not 256 bytes is refused as that, sealed or not, a cell's or not.
func TestGetOfAnotherSize(t *testing.T) {
	whole := put(t, api.Cell{Owner: 1, Next: 7, Data: filled(242, 1)})
	long := append(bytes.Clone(whole), make([]byte, 400)...)
	body := append(unsealed(api.Cell{Owner: 1, Data: filled(9, 1)}), make([]byte, 400)...)
	notGot(t, "nil", nil, api.ErrSize)
	for size := range 600 {
		if size == 256 {
			continue
		}
		notGot(t, "zeros", make([]byte, size), api.ErrSize)
		notGot(t, "a cell's, cut or with more", long[:size], api.ErrSize)
		notGot(t, "any", filled(size, size), api.ErrSize)
		if size >= 4 {
			notGot(t, "sealed", crc.Seal(body[:size-4]), api.ErrSize)
		}
	}
	notGot(t, "two cells", append(bytes.Clone(whole), whole...), api.ErrSize)
}

// 9.1: 256 bytes that are not sealed are refused as that, be they else a cell's or not.
func TestGetOfWhatIsNotSealed(t *testing.T) {
	notGot(t, "zeros", make([]byte, 256), api.ErrSum)
	notGot(t, "any", filled(256, 3), api.ErrSum)
	notGot(t, "all ones", bytes.Repeat([]byte{255}, 256), api.ErrSum)
	for _, c := range []api.Cell{{}, {Owner: 1, Data: []byte{0}}, {Owner: api.MaxNum, Number: 9, Next: 3, Data: filled(242, 5)}} {
		b := crc.Seal(unsealed(c))
		for i := range 4 {
			off := bytes.Clone(b)
			off[252+i]++
			notGot(t, "another sum", off, api.ErrSum)
		}
		slices.Reverse(b[252:])
		notGot(t, "a sum the other way round", b, api.ErrSum)
		clear(b[252:])
		notGot(t, "no sum", b, api.ErrSum)
	}
	notGot(t, "neither sealed nor a cell's", append(make([]byte, 252), 1, 2, 3, 4), api.ErrSum)
	inner := crc.Seal(unsealed(api.Cell{Owner: 1, Data: []byte{1}})[:248]) // sealed, but 4 bytes behind that
	notGot(t, "sealed ahead of its end", append(inner, 0, 0, 0, 0), api.ErrSum)
}

// 9.1: a cell's bytes of which one is turned, or some within 4 in a row are, are not sealed.
func TestChangedBytes(t *testing.T) {
	r := rand.New(rand.NewSource(9))
	for _, c := range []api.Cell{{Owner: 1, Data: []byte{0}}, {Owner: 2, Number: 3, Next: 4, Data: filled(60, 7)}, {Owner: api.MaxNum, Number: 65535, Next: 65535, Data: filled(242, 1)}} {
		whole := put(t, c)
		for i := range 256 {
			for _, turn := range []byte{1, 2, 4, 8, 16, 32, 64, 128, 255, byte(1 + r.Intn(255))} {
				b := bytes.Clone(whole)
				b[i] ^= turn
				notGot(t, "one byte turned", b, api.ErrSum)
			}
		}
		for wide := 2; wide <= 4; wide++ {
			for i := range 257 - wide {
				b := bytes.Clone(whole)
				for k := range wide {
					b[i+k] ^= byte(1 + r.Intn(255))
				}
				notGot(t, "bytes in a row turned", b, api.ErrSum)
			}
		}
	}
}

// 9.1: sealed bytes are refused if they have no Owner, or what is no number, no Data or too much of it, or bytes behind that.
func TestGetOfWhatIsNoCell(t *testing.T) {
	form := func(why string, b []byte) {
		t.Helper()
		notGot(t, why, crc.Seal(b), api.ErrForm)
	}
	form("all zero", make([]byte, 252))
	form("all ones", bytes.Repeat([]byte{255}, 252))
	form("no Data", unsealed(api.Cell{Owner: 1}))
	form("no Data", unsealed(api.Cell{Owner: 1, Number: 5, Next: 6}))
	for _, size := range []int{1, 2, 100, 241, 242} {
		c := api.Cell{Owner: 2, Number: 3, Next: 4, Data: filled(size, size)}
		good := unsealed(c)
		putAndGot(t, c)
		c.Owner = 0
		form("no Owner", unsealed(c))
		for _, owner := range []int{1 << 31, 1<<31 + 1, 1<<31 + 1<<24, 1<<32 - 1} {
			c.Owner = owner
			form("an Owner that is no number", unsealed(c))
		}
		for place := 10 + size; place < 252; place++ {
			for _, x := range []byte{1, 128, 255} {
				b := bytes.Clone(good)
				b[place] = x
				form("a byte behind Data", b)
			}
		}
		for less := range size { // all of Data's bytes are none of them zero
			b := bytes.Clone(good)
			b[8] = byte(less)
			form("Data of fewer bytes than there are", b)
		}
		for many := 243; many < 65536; many += 1 + many/300 {
			b := bytes.Clone(good)
			b[8], b[9] = byte(many), byte(many>>8)
			form("Data of more bytes than there may be", b)
		}
		for _, high := range []byte{1, 2, 128, 255} { // right but for the size's higher byte
			b := bytes.Clone(good)
			b[9] = high
			form("Data of very many bytes", b)
		}
	}
}

// 9.1: of any sealed bytes Get answers a cell just where these are its bytes.
func TestGetOfAnySealedBytes(t *testing.T) {
	r := rand.New(rand.NewSource(91))
	known := 0
	for range 20000 {
		b := unsealed(api.Cell{Owner: 1 + r.Intn(api.MaxNum), Number: r.Intn(1 << 16), Next: r.Intn(1 << 16), Data: filled(1+r.Intn(242), r.Intn(9))})
		for range r.Intn(3) {
			place := r.Intn(12)
			if r.Intn(3) == 0 {
				place = r.Intn(252)
			}
			b[place] = []byte{0, 1, 241, 242, 243, 127, 128, 255, byte(r.Intn(256))}[r.Intn(9)]
		}
		sealed := crc.Seal(b)
		c, e := cell.Get(sealed)
		if e == api.OK {
			known++
			if got := put(t, c); !bytes.Equal(got, sealed) {
				t.Fatalf("Get(%x): %+v, and put again: %x", sealed, c, got)
			}
			continue
		}
		size := int(b[8]) | int(b[9])<<8
		owned := b[0]|b[1]|b[2]|b[3] != 0 && b[3] < 128
		right := owned && size >= 1 && size <= 242 && len(bytes.Trim(b[10+size:], "\x00")) == 0
		if e != api.ErrForm || !same(c, api.Cell{}) || right {
			t.Fatalf("Get(%x): %+v, %d", sealed, c, e)
		}
	}
	if known < 4000 || known > 19000 {
		t.Fatalf("%d of them were cells", known)
	}
}

// R4: what is handed in is not changed, nor the room behind it; what is handed out is new, and whoever writes to the one does not change the other.
func TestBytesStandAlone(t *testing.T) {
	data := append(make([]byte, 0, 300), "abc"...)
	c := api.Cell{Owner: 3, Data: data}
	b := put(t, c)
	if string(data[:300]) != "abc"+string(make([]byte, 297)) {
		t.Fatalf("Put has changed %x", data[:300])
	}
	was := bytes.Clone(b)
	copy(data, "xyz")
	if !bytes.Equal(b, was) {
		t.Fatalf("what was put has become %x", b)
	}
	clear(b)
	if string(data) != "xyz" {
		t.Fatalf("what was handed in has become %x", data)
	}
	behind := append(bytes.Clone(was), make([]byte, 64)...)
	room := behind[:256]
	got, e := cell.Get(room)
	if e != api.OK || string(got.Data) != "abc" || !bytes.Equal(room, was) {
		t.Fatalf("Get: %+v, %d; it has changed to %x", got, e, room)
	}
	clear(room)
	if string(got.Data) != "abc" {
		t.Fatalf("what was got has become %x", got.Data)
	}
	copy(room, was)
	copy(got.Data, "xyz")
	_ = append(got.Data, filled(64, 1)...)
	if !bytes.Equal(room, was) || len(bytes.Trim(behind[256:], "\x00")) != 0 {
		t.Fatalf("what was handed in has become %x", behind)
	}
	if again, e := cell.Get(room); e != api.OK || string(again.Data) != "abc" {
		t.Fatalf("got again: %+v, %d", again, e)
	}
}
