package crc

import (
	"bytes"
	"testing"

	"chantry/api"
)

// rows answers texts of unlike lengths and bytes, those among them that a sum is apt to overlook.
func rows() [][]byte {
	l := [][]byte{nil, {}, {0}, {1}, {128}, {255}, {0, 0, 0, 0}, {255, 255, 255, 255}, {0, 0, 0, 0, 7}, {7, 0, 0, 0, 0}}
	l = append(l, []byte("a"), []byte("ab"), []byte("123456789"), make([]byte, 32), bytes.Repeat([]byte{255}, 32))
	for _, size := range []int{3, 5, 60, 64, 252, 256, 1000} {
		l = append(l, sample(size))
	}
	return l
}

// sample answers so many bytes, the same each time.
func sample(size int) []byte {
	next := numbers(uint32(size) + 1)
	b := make([]byte, size)
	for i := range b {
		b[i] = byte(next())
	}
	return b
}

// numbers answers a call that tells numbers without an order that is easily seen, the same ones each time.
func numbers(seed uint32) func() uint32 {
	n := uint64(seed)
	return func() uint32 {
		n = n*6364136223846793005 + 1442695040888963407
		return uint32(n >> 32)
	}
}

// divided is the sum by long division, as 2.1 words it: the polynomial as it is, each bit put in by itself, the
// first 32 of the text turned (what a register of all ones comes to), the rest read lowest bit last.
func divided(b []byte) uint32 {
	var bits []bool
	for _, x := range append(bytes.Clone(b), 0, 0, 0, 0) {
		for k := range 8 {
			bits = append(bits, x>>k&1 == 1)
		}
	}
	for i := range 32 {
		bits[i] = !bits[i]
	}
	var rest uint64
	for _, bit := range bits {
		rest <<= 1
		if bit {
			rest |= 1
		}
		if rest>>32 == 1 {
			rest ^= 1<<32 | 0x1edc6f41
		}
	}
	var sum uint32
	for k := range 32 {
		sum |= uint32(rest>>k&1) << (31 - k)
	}
	return ^sum
}

// mixed answers what is, bit by bit, in an odd number of texts of one length.
func mixed(l ...[]byte) []byte {
	b := make([]byte, len(l[0]))
	for _, text := range l {
		for i, x := range text {
			b[i] ^= x
		}
	}
	return b
}

func checkNotSealed(t *testing.T, name string, b []byte) {
	t.Helper()
	was := bytes.Clone(b)
	if got, e := Open(b); e != api.ErrSum || len(got) != 0 {
		t.Errorf("%s: Open(%x): %x, %d, want ErrSum", name, b, got, e)
	}
	if !bytes.Equal(b, was) {
		t.Errorf("%s: Open changed %x to %x", name, was, b)
	}
}

// 2.1: Sum is CRC-32C: the chapter's example, and those of iSCSI (RFC 3720, B.4).
func TestSum(t *testing.T) {
	up, down := make([]byte, 32), make([]byte, 32)
	for i := range up {
		up[i], down[i] = byte(i), byte(31-i)
	}
	read := make([]byte, 48) // a command's header, as it stands there
	read[0], read[1], read[16], read[22], read[27], read[31], read[32], read[34], read[40] = 1, 192, 20, 4, 20, 24, 40, 0, 2
	for _, c := range []struct {
		b    []byte
		want uint32
	}{
		{nil, 0},
		{[]byte{}, 0},
		{[]byte{0}, 0x527d5351},
		{[]byte("a"), 0xc1d04330},
		{[]byte("123456789"), 0xe3069283},
		{make([]byte, 32), 0x8a9136aa},
		{bytes.Repeat([]byte{255}, 32), 0x62a8ab43},
		{up, 0x46dd794e},
		{down, 0x113fdb5c},
		{read, 0xd9963a56},
	} {
		if got := Sum(c.b); got != c.want {
			t.Errorf("Sum(%x): %08x, want %08x", c.b, got, c.want)
		}
	}
}

// 2.1: Sum is what is left by the polynomial, of each byte, and of texts of any length.
func TestSumIsWhatIsLeft(t *testing.T) {
	for i := range 256 {
		if b := []byte{byte(i)}; Sum(b) != divided(b) {
			t.Errorf("Sum(%x): %08x, want %08x", b, Sum(b), divided(b))
		}
	}
	for size := range 200 {
		if b := sample(size); Sum(b) != divided(b) {
			t.Errorf("Sum(%x): %08x, want %08x", b, Sum(b), divided(b))
		}
	}
}

// 2.1: More of a part's sum, and of what is behind it, is the sum of both, wherever the bytes are parted.
func TestMore(t *testing.T) {
	for _, b := range rows() {
		want := divided(b)
		for i := range len(b) + 1 {
			if got := More(Sum(b[:i]), b[i:]); got != want {
				t.Errorf("%x, parted at %d: %08x, want %08x", b, i, got, want)
			}
		}
		for _, wide := range []int{1, 3, 7} {
			var sum uint32
			for i := 0; i < len(b); i += wide {
				sum = More(sum, b[i:min(i+wide, len(b))])
			}
			if sum != want {
				t.Errorf("%x, in parts of %d: %08x, want %08x", b, wide, sum, want)
			}
		}
	}
}

// 2.1: More with no bytes is the sum that it was, whichever that is.
func TestMoreOfNoBytes(t *testing.T) {
	for _, sum := range []uint32{0, 1, 0xe3069283, 1<<31 - 1, 1 << 31, 1<<32 - 1} {
		for _, b := range [][]byte{nil, {}} {
			if got := More(sum, b); got != sum {
				t.Errorf("More(%08x, %v): %08x", sum, b, got)
			}
		}
	}
}

// 2.1: More goes on from any number, as each one is the sum of some 4 bytes.
func TestMoreOfAnySum(t *testing.T) {
	next := numbers(5)
	for _, sum := range []uint32{0, 1, 1<<31 - 1, 1 << 31, 1<<32 - 1, next(), next(), next()} {
		first := textOf(sum)
		if got := divided(first); got != sum {
			t.Fatalf("%x has the sum %08x, want %08x", first, got, sum)
		}
		for _, b := range rows() {
			if got, want := More(sum, b), divided(append(bytes.Clone(first), b...)); got != want {
				t.Errorf("More(%08x, %x): %08x, want %08x", sum, b, got, want)
			}
		}
	}
}

// textOf answers the 4 bytes of that sum: a register's steps are gone back, as each one tells by its highest bit what went out.
func textOf(sum uint32) []byte {
	register := ^sum
	for range 32 {
		if register>>31 == 1 {
			register = (register^polynomial)<<1 | 1
		} else {
			register <<= 1
		}
	}
	text := ^register // the register began with all ones
	return []byte{byte(text), byte(text >> 8), byte(text >> 16), byte(text >> 24)}
}

// 2.1: Seal puts the sum behind the bytes, its lowest byte first.
func TestSeal(t *testing.T) {
	for _, c := range []struct{ b, want string }{
		{"", "\x00\x00\x00\x00"},
		{"a", "a\x30\x43\xd0\xc1"},
		{"123456789", "123456789\x83\x92\x06\xe3"},
		{string(make([]byte, 32)), string(make([]byte, 32)) + "\xaa\x36\x91\x8a"},
	} {
		if got := Seal([]byte(c.b)); string(got) != c.want {
			t.Errorf("Seal(%x): %x, want %x", c.b, got, c.want)
		}
	}
	if got := Seal(nil); string(got) != "\x00\x00\x00\x00" {
		t.Errorf("Seal(nil): %x", got)
	}
	for _, b := range rows() {
		sum := divided(b)
		want := append(bytes.Clone(b), byte(sum), byte(sum>>8), byte(sum>>16), byte(sum>>24))
		if got := Seal(b); !bytes.Equal(got, want) {
			t.Errorf("Seal(%x): %x, want %x", b, got, want)
		}
	}
}

// 2.1: a sum of any size is told in its 4 bytes: those above MaxNum too, and those with bytes of 0.
func TestSealOfAnySum(t *testing.T) {
	for _, sum := range []uint32{0, 1, 255, 256, 1<<16 - 1, 1 << 16, 1 << 24, api.MaxNum, api.MaxNum + 1, 0xff00ff00, 1<<32 - 1} {
		b := textOf(sum)
		want := append(bytes.Clone(b), byte(sum), byte(sum>>8), byte(sum>>16), byte(sum>>24))
		if got := Seal(b); !bytes.Equal(got, want) {
			t.Errorf("Seal(%x): %x, want %x", b, got, want)
		}
		if got, e := Open(want); e != api.OK || !bytes.Equal(got, b) {
			t.Errorf("Open(%x): %x, %d", want, got, e)
		}
	}
}

// 2.2: what is sealed is opened, also if it was sealed twice.
func TestOpen(t *testing.T) {
	for _, b := range rows() {
		sealed := Seal(b)
		if got, e := Open(sealed); e != api.OK || !bytes.Equal(got, b) {
			t.Errorf("Open of %x, sealed: %x, %d", b, got, e)
		}
		if got, e := Open(Seal(sealed)); e != api.OK || !bytes.Equal(got, sealed) {
			t.Errorf("Open of %x, sealed: %x, %d", sealed, got, e)
		}
	}
	if got, e := Open([]byte("123456789\x83\x92\x06\xe3")); e != api.OK || string(got) != "123456789" {
		t.Errorf("Open: %q, %d", got, e)
	}
}

// 2.1: of 4 bytes, 4 of 0 alone are sealed, and no bytes are in them; of 5, for each first byte, one text alone.
func TestOpenOfFourAndFive(t *testing.T) {
	if got, e := Open(make([]byte, 4)); e != api.OK || len(got) != 0 {
		t.Errorf("Open of 4 bytes of 0: %x, %d", got, e)
	}
	for k := range 32 {
		b := make([]byte, 4)
		b[k/8] = 1 << (k % 8)
		checkNotSealed(t, "4 bytes", b)
	}
	checkNotSealed(t, "4 bytes", []byte("abcd"))
	checkNotSealed(t, "4 bytes of 255", []byte{255, 255, 255, 255})
	checkNotSealed(t, "5 bytes of 0", make([]byte, 5))
	checkNotSealed(t, "5 bytes", []byte("abcde"))
	for i := range 256 {
		x := byte(i)
		sum := divided([]byte{x})
		b := []byte{x, byte(sum), byte(sum >> 8), byte(sum >> 16), byte(sum >> 24)}
		if got, e := Open(b); e != api.OK || len(got) != 1 || got[0] != x {
			t.Errorf("Open(%x): %x, %d", b, got, e)
		}
		b[0]++
		checkNotSealed(t, "another first byte", b)
	}
}

// 2.1: Open answers ErrSum, and nothing beside it, of what has no room for a sum.
func TestOpenOfTooFew(t *testing.T) {
	for _, b := range [][]byte{nil, {}, {0}, {1}, {0, 0}, {0, 0, 0}, {255, 255, 255}, []byte("abc")} {
		checkNotSealed(t, "too few", b)
	}
}

// 2.1: a sum that stands the other way round, that isn't turned in the end, that is another one's, or that stands ahead is none.
func TestOpenOfAnotherSum(t *testing.T) {
	for name, tail := range map[string]string{
		"highest first": "\xe3\x06\x92\x83",
		"not turned":    "\x7c\x6d\xf9\x1c",
		"CRC-32":        "\x26\x39\xf4\xcb",
		"a's":           "\x30\x43\xd0\xc1",
		"no sum":        "\x00\x00\x00\x00",
		"halves":        "\x06\xe3\x83\x92",
		"half":          "\x83\x92",
		"with a tail":   "\x83\x92\x06\xe3\x00",
	} {
		checkNotSealed(t, name, []byte("123456789"+tail))
	}
	checkNotSealed(t, "ahead", []byte("\x83\x92\x06\xe3123456789"))
}

// 2.2: sealed bytes are not sealed any more, if some are turned within 4 in a row: each single bit, each two bits,
// each one of a byte's ways to be turned, and many of all four's; the sum's own bytes, and those that lie half in it, too.
func TestTurned(t *testing.T) {
	next := numbers(11)
	for _, b := range [][]byte{nil, {0}, []byte("123456789"), make([]byte, 6), bytes.Repeat([]byte{255}, 6), sample(20)} {
		sealed := Seal(b)
		for at := range len(sealed) - 3 {
			for i := range 32 {
				for j := range i + 1 {
					checkTurned(t, sealed, at, 1<<i|1<<j)
				}
			}
			for i := 1; i < 256; i++ {
				for k := range 4 {
					checkTurned(t, sealed, at, uint32(i)<<(8*k))
				}
				checkTurned(t, sealed, at, uint32(i)*0x01010101)
			}
			checkTurned(t, sealed, at, polynomial)
			checkTurned(t, sealed, at, 0x1edc6f41)
			for range 300 {
				checkTurned(t, sealed, at, next()|1<<(next()%32))
			}
		}
	}
}

func checkTurned(t *testing.T, sealed []byte, at int, turns uint32) {
	t.Helper()
	b := bytes.Clone(sealed)
	for i := range 4 {
		b[at+i] ^= byte(turns >> (8 * i))
	}
	if got, e := Open(b); e != api.ErrSum || len(got) != 0 {
		t.Errorf("%x, at %d turned by %08x: %x, %d, want ErrSum", sealed, at, turns, got, e)
	}
}

// 2.2: each way to turn two bytes that stand by one another.
func TestTwoTurned(t *testing.T) {
	sealed := Seal([]byte("abc"))
	for at := range len(sealed) - 1 {
		b := bytes.Clone(sealed)
		for turns := 1; turns < 1<<16; turns++ {
			b[at], b[at+1] = sealed[at]^byte(turns), sealed[at+1]^byte(turns>>8)
			if got, e := Open(b); e != api.ErrSum || len(got) != 0 {
				t.Fatalf("Open(%x): %x, %d, want ErrSum", b, got, e)
			}
		}
	}
}

// 2.1: sealed bytes of which some are gone, behind or ahead, or to which some came, are not sealed.
func TestCutOff(t *testing.T) {
	for _, b := range [][]byte{{0}, {255}, []byte("a"), []byte("123456789"), sample(64), sample(252)} {
		sealed := Seal(b)
		for i := range len(sealed) {
			checkNotSealed(t, "cut off", sealed[:i])
			if i > 0 {
				checkNotSealed(t, "cut off ahead", sealed[i:])
			}
		}
		checkNotSealed(t, "one more", append(bytes.Clone(sealed), 0))
		checkNotSealed(t, "one more ahead", append([]byte{0}, sealed...))
	}
}

// 2.1: bytes that are all alike are not sealed, but where they are their own sum: 4 of 0, and 8 of 255.
func TestAllAlike(t *testing.T) {
	for i := range 256 {
		for size := range 40 {
			b := bytes.Repeat([]byte{byte(i)}, size)
			if i == 0 && size == 4 || i == 255 && size == 8 {
				if got, e := Open(b); e != api.OK || !bytes.Equal(got, b[4:]) {
					t.Errorf("Open(%x): %x, %d", b, got, e)
				}
				continue
			}
			checkNotSealed(t, "all alike", b)
		}
	}
}

// 2.2: the sum of what is in an odd number of three texts is what is in an odd number of their sums.
func TestSumsGoTogether(t *testing.T) {
	next := numbers(3)
	for size := range 80 {
		for range 5 {
			var l [3][]byte
			for i := range l {
				l[i] = make([]byte, size)
				for j := range l[i] {
					l[i][j] = byte(next())
				}
			}
			if got, want := Sum(mixed(l[:]...)), Sum(l[0])^Sum(l[1])^Sum(l[2]); got != want {
				t.Errorf("of %x: %08x, want %08x", l, got, want)
			}
			if got, want := Sum(mixed(l[0], l[0], l[2])), Sum(l[2]); got != want {
				t.Errorf("of %x, twice, and %x: %08x, want %08x", l[0], l[2], got, want)
			}
		}
	}
}

// R4: what is handed in is not changed, not even the room behind it.
func TestHandedInIsKept(t *testing.T) {
	room := []byte("123456789\x83\x92\x06\xe3and more")
	was := bytes.Clone(room)
	Sum(room[:9])
	More(7, room[:9])
	sealed := Seal(room[:5])
	got, e := Open(room[:13])
	if string(got) != "123456789" || e != api.OK || len(sealed) != 9 {
		t.Errorf("Open: %q, %d; sealed: %x", got, e, sealed)
	}
	_ = append(got, "and others"...)
	_ = append(sealed, "and others"...)
	if !bytes.Equal(room, was) {
		t.Errorf("what was handed in has changed to %q", room)
	}
}

// LANGUAGE 7: what is answered is new memory.
func TestAnswersAreNew(t *testing.T) {
	b := []byte("ab")
	sealed := Seal(b)
	again := bytes.Clone(sealed)
	b[0] = 'x'
	if !bytes.Equal(sealed, again) {
		t.Errorf("what was sealed has changed to %x", sealed)
	}
	got, _ := Open(sealed)
	clear(sealed)
	if string(got) != "ab" {
		t.Errorf("what was opened has changed to %x", got)
	}
	got[0] = 'y'
	if !bytes.Equal(sealed, make([]byte, 6)) || string(b) != "xb" {
		t.Errorf("what was handed in has changed to %x, %q", sealed, b)
	}
}

// R5: the same bytes have the same sum, whatever was asked ahead.
func TestNothingIsKept(t *testing.T) {
	want := Sum([]byte("ab"))
	for _, b := range rows() {
		Sum(b)
		More(9, b)
		Open(Seal(b))
		Open(b)
		if got := Sum([]byte("ab")); got != want {
			t.Fatalf("Sum: %08x, then %08x", want, got)
		}
	}
}
