package num

import (
	"bytes"
	"math"
	"testing"

	"chantry/api"
)

// numbers are the edges of numbers: those of how many bytes they have, and of how many they need.
func numbers() []int {
	l := []int{0, 1, 2, 100, 300, 1000, 100000, 123456789, api.MaxNum - 1, api.MaxNum}
	for i := range 31 {
		l = append(l, 1<<i-1, 1<<i, 1<<i+1)
	}
	return l
}

// noNumbers are ints that are no numbers.
func noNumbers() []int {
	return []int{-1, -2, -128, -300, -api.MaxNum, math.MinInt32, math.MinInt, api.MaxNum + 1, math.MaxUint32, 1 << 32, 1<<32 + 5, math.MaxInt}
}

// 1.1: a number's bytes are its groups of 7 bits, the lowest first, no more than are needed.
func TestPut(t *testing.T) {
	for _, c := range []struct {
		n    int
		want string
	}{
		{0, "\x00"},
		{1, "\x01"},
		{127, "\x7f"},
		{128, "\x80\x01"},
		{129, "\x81\x01"},
		{300, "\xac\x02"},
		{1<<14 - 1, "\xff\x7f"},
		{1 << 14, "\x80\x80\x01"},
		{1<<21 - 1, "\xff\xff\x7f"},
		{1 << 21, "\x80\x80\x80\x01"},
		{1<<28 - 1, "\xff\xff\xff\x7f"},
		{1 << 28, "\x80\x80\x80\x80\x01"},
		{api.MaxNum - 1, "\xfe\xff\xff\xff\x07"},
		{api.MaxNum, "\xff\xff\xff\xff\x07"},
	} {
		if b, e := Put(c.n); e != api.OK || string(b) != c.want {
			t.Errorf("Put(%d): %x, %d, want %x", c.n, b, e, c.want)
		}
	}
}

// 1.1: Put answers ErrArg, and nothing beside it, of what is no number.
func TestPutOfNoNumber(t *testing.T) {
	for _, n := range noNumbers() {
		if b, e := Put(n); e != api.ErrArg || len(b) != 0 {
			t.Errorf("Put(%d): %x, %d, want ErrArg", n, b, e)
		}
	}
}

// 1.1: Get tells the number at the beginning, and how many bytes it has, whatever stands behind it.
func TestGet(t *testing.T) {
	for _, c := range []struct {
		b       string
		n, size int
	}{
		{"\x00", 0, 1},
		{"\x00\x00", 0, 1},
		{"\x00\x80", 0, 1},
		{"\x01", 1, 1},
		{"\x7f\xff", 127, 1},
		{"\x80\x01", 128, 2},
		{"\x80\x01\x80", 128, 2},
		{"\xac\x02\x09", 300, 2},
		{"\xff\xff\xff\x7f", 1<<28 - 1, 4},
		{"\x80\x80\x80\x80\x01\x01", 1 << 28, 5},
		{"\xff\xff\xff\xff\x07", api.MaxNum, 5},
		{"\xff\xff\xff\xff\x07\xff\xff", api.MaxNum, 5},
	} {
		if n, size, e := Get([]byte(c.b)); e != api.OK || n != c.n || size != c.size {
			t.Errorf("Get(%x): %d, %d, %d, want %d, %d", c.b, n, size, e, c.n, c.size)
		}
	}
}

// 1.1: Get answers ErrForm, and nothing beside it, where no number's bytes begin.
func TestGetOfNoNumber(t *testing.T) {
	for name, l := range map[string][]string{
		"nothing":          {""},
		"cut off":          {"\x80", "\xff", "\xac", "\x80\x80", "\xff\xff\xff\xff", "\x80\x80\x80\x80"},
		"more than needed": {"\x80\x00", "\x81\x00", "\xff\x00", "\xac\x82\x00", "\x80\x80\x80\x80\x00", "\xff\xff\xff\xff\x00", "\x80\x00\x05"},
		"above MaxNum":     {"\x80\x80\x80\x80\x08", "\xff\xff\xff\xff\x08", "\xff\xff\xff\xff\x0f", "\xff\xff\xff\xff\x10", "\xff\xff\xff\xff\x7f"},
		"six bytes":        {"\x80\x80\x80\x80\x80\x01", "\x80\x80\x80\x80\x80\x00", "\xff\xff\xff\xff\x87\x00", "\xff\xff\xff\xff\xff\x01"},
		"wraps round":      {"\x85\x80\x80\x80\x80\x80\x80\x80\x80\x02", "\x85\x80\x80\x80\x80\x80\x80\x80\x80\x7e"},
		"very many bytes":  {"\x80\x80\x80\x80\x80\x80\x80\x80\x80\x01", "\x85\x80\x80\x80\x80\x80\x80\x80\x80\x80\x80\x01"},
	} {
		for _, b := range l {
			if n, size, e := Get([]byte(b)); e != api.ErrForm || n != 0 || size != 0 {
				t.Errorf("%s: Get(%x): %d, %d, %d, want ErrForm", name, b, n, size, e)
			}
		}
	}
	if n, size, e := Get(nil); e != api.ErrForm || n != 0 || size != 0 {
		t.Errorf("Get(nil): %d, %d, %d, want ErrForm", n, size, e)
	}
}

// 1.1: a text's bytes are how many it has, as a number, then these.
func TestText(t *testing.T) {
	for _, c := range []struct {
		size int
		head string
	}{
		{0, "\x00"},
		{1, "\x01"},
		{2, "\x02"},
		{127, "\x7f"},
		{128, "\x80\x01"},
		{1 << 14, "\x80\x80\x01"},
		{api.MaxBytes - 1, "\xff\xff\x0f"},
		{api.MaxBytes, "\x80\x80\x10"},
	} {
		text := sample(c.size)
		want := append([]byte(c.head), text...)
		if b, e := Text(text); e != api.OK || !bytes.Equal(b, want) {
			t.Errorf("Text of %d bytes: %d bytes, %d", c.size, len(b), e)
		}
		if !bytes.Equal(text, sample(c.size)) {
			t.Errorf("Text of %d bytes changed them", c.size)
		}
	}
	if b, e := Text(nil); e != api.OK || string(b) != "\x00" {
		t.Errorf("Text(nil): %x, %d", b, e)
	}
}

// 1.1: Text answers ErrLong, and nothing beside it, of more than MaxBytes bytes.
func TestTextTooLong(t *testing.T) {
	for _, size := range []int{api.MaxBytes + 1, api.MaxBytes + 128, 3 * api.MaxBytes} {
		if b, e := Text(sample(size)); e != api.ErrLong || len(b) != 0 {
			t.Errorf("Text of %d bytes: %d bytes, %d, want ErrLong", size, len(b), e)
		}
	}
}

// 1.1: what Text answers is new memory.
func TestTextIsNew(t *testing.T) {
	text := append(make([]byte, 0, 64), "ab"...)
	b, _ := Text(text)
	text[0] = 'x'
	if string(b) != "\x02ab" {
		t.Errorf("what was told has changed to %x", b)
	}
	b[1] = 'y'
	if string(text) != "xb" {
		t.Errorf("what was handed in has changed to %q", text)
	}
}

// 1.1: Fix tells a number in so many bytes, the lowest first.
func TestFix(t *testing.T) {
	for _, c := range []struct {
		n, wide int
		want    string
	}{
		{0, 1, "\x00"},
		{0, 4, "\x00\x00\x00\x00"},
		{5, 1, "\x05"},
		{255, 1, "\xff"},
		{255, 2, "\xff\x00"},
		{256, 2, "\x00\x01"},
		{258, 2, "\x02\x01"},
		{1<<16 - 1, 2, "\xff\xff"},
		{1 << 16, 3, "\x00\x00\x01"},
		{1<<24 - 1, 3, "\xff\xff\xff"},
		{1 << 24, 4, "\x00\x00\x00\x01"},
		{0x01020304, 4, "\x04\x03\x02\x01"},
		{api.MaxNum, 4, "\xff\xff\xff\x7f"},
	} {
		if b, e := Fix(c.n, c.wide); e != api.OK || string(b) != c.want {
			t.Errorf("Fix(%d, %d): %x, %d, want %x", c.n, c.wide, b, e, c.want)
		}
	}
}

// 1.1: Fix answers ErrArg of a wrong width, of what is no number, and of what does not fit.
func TestFixOfWrong(t *testing.T) {
	wrong := [][2]int{{256, 1}, {1 << 16, 1}, {1 << 16, 2}, {api.MaxNum, 2}, {1 << 24, 3}, {api.MaxNum, 3}}
	for _, wide := range []int{0, -1, 5, 8, 9, 64, math.MinInt, math.MaxInt, 1<<32 + 1} {
		wrong = append(wrong, [2]int{0, wide}, [2]int{1, wide}, [2]int{api.MaxNum, wide})
	}
	for _, n := range noNumbers() {
		wrong = append(wrong, [2]int{n, 1}, [2]int{n, 2}, [2]int{n, 3}, [2]int{n, 4}, [2]int{n, 5})
	}
	for _, c := range wrong {
		if b, e := Fix(c[0], c[1]); e != api.ErrArg || len(b) != 0 {
			t.Errorf("Fix(%d, %d): %x, %d, want ErrArg", c[0], c[1], b, e)
		}
	}
}

// 1.1: Unfix tells the number of 1 to 4 bytes.
func TestUnfix(t *testing.T) {
	for _, c := range []struct {
		b    string
		want int
	}{
		{"\x00", 0},
		{"\x05", 5},
		{"\xff", 255},
		{"\x02\x01", 258},
		{"\x00\x00", 0},
		{"\x00\x00\x01", 1 << 16},
		{"\xff\xff\xff", 1<<24 - 1},
		{"\x01\x00\x00\x00", 1},
		{"\x04\x03\x02\x01", 0x01020304},
		{"\xff\xff\xff\x7f", api.MaxNum},
	} {
		if n, e := Unfix([]byte(c.b)); e != api.OK || n != c.want {
			t.Errorf("Unfix(%x): %d, %d, want %d", c.b, n, e, c.want)
		}
	}
}

// 1.1: Unfix answers ErrArg of no bytes and of more than 4, ErrForm above MaxNum.
func TestUnfixOfWrong(t *testing.T) {
	for _, c := range []struct {
		b    []byte
		want api.Errno
	}{
		{nil, api.ErrArg},
		{[]byte{}, api.ErrArg},
		{[]byte{0, 0, 0, 0, 0}, api.ErrArg},
		{[]byte{1, 0, 0, 0, 0}, api.ErrArg},
		{[]byte{255, 255, 255, 255, 255}, api.ErrArg},
		{make([]byte, 64), api.ErrArg},
		{[]byte{0, 0, 0, 128}, api.ErrForm},
		{[]byte{255, 255, 255, 128}, api.ErrForm},
		{[]byte{255, 255, 255, 255}, api.ErrForm},
	} {
		if n, e := Unfix(c.b); e != c.want || n != 0 {
			t.Errorf("Unfix(%x): %d, %d, want %d", c.b, n, e, c.want)
		}
	}
}

// 1.3: what is put is got, whatever stands behind it.
func TestPutIsGot(t *testing.T) {
	for _, n := range numbers() {
		b, e := Put(n)
		if e != api.OK {
			t.Fatalf("Put(%d): %d", n, e)
		}
		for _, tail := range []string{"", "\x00", "\x01", "\x7f", "\x80", "\xff", "\xff\xff\xff\xff\xff\xff"} {
			m, size, e := Get(append(bytes.Clone(b), tail...))
			if e != api.OK || m != n || size != len(b) {
				t.Errorf("Get(%x, then %x): %d, %d, %d, want %d, %d", b, tail, m, size, e, n, len(b))
			}
		}
		for i := range b {
			if _, _, e := Get(b[:i]); e != api.ErrForm {
				t.Errorf("Get(%x): %d, want ErrForm", b[:i], e)
			}
		}
	}
}

// 1.3: what is fixed is got, at each width that it fits.
func TestFixIsGot(t *testing.T) {
	for _, n := range numbers() {
		for wide := 1; wide <= 4; wide++ {
			b, e := Fix(n, wide)
			if fits := n < 1<<(8*wide); !fits {
				if e != api.ErrArg {
					t.Errorf("Fix(%d, %d): %d, want ErrArg", n, wide, e)
				}
				continue
			}
			m, f := Unfix(b)
			if e != api.OK || f != api.OK || len(b) != wide || m != n {
				t.Errorf("Fix(%d, %d): %x, %d; Unfix of it: %d, %d", n, wide, b, e, m, f)
			}
		}
	}
}

// 1.3: a text that is put is taken by a cursor, whatever stands behind it.
func TestTextIsGot(t *testing.T) {
	for _, size := range []int{0, 1, 127, 128, 1 << 14, api.MaxBytes} {
		b, _ := Text(sample(size))
		c := From(append(b, 7, 9))
		text := c.Text()
		if c.Bad() || !bytes.Equal(text, sample(size)) || c.Left() != 2 || c.Byte() != 7 || c.Byte() != 9 {
			t.Errorf("a text of %d bytes is got as one of %d, bad: %v", size, len(text), c.Bad())
		}
	}
}

// 1.3: each number has one way to be put: whatever is got is put as just these bytes.
func TestOneWay(t *testing.T) {
	parts := []byte{0, 1, 7, 8, 127, 128, 135, 255}
	var try func(b []byte)
	try = func(b []byte) {
		if n, size, e := Get(b); e == api.OK {
			if p, f := Put(n); f != api.OK || !bytes.Equal(p, b[:size]) {
				t.Errorf("Get(%x): %d, which is put as %x, %d", b, n, p, f)
			}
		}
		if len(b) == 6 {
			return
		}
		for _, x := range parts {
			try(append(b, x))
		}
	}
	try(make([]byte, 0, 6))
	for i := range 1 << 16 {
		b := []byte{byte(i), byte(i >> 8)}
		if n, size, e := Get(b); e == api.OK {
			if p, _ := Put(n); !bytes.Equal(p, b[:size]) {
				t.Errorf("Get(%x): %d, which is put as %x", b, n, p)
			}
		}
	}
}

func sample(size int) []byte {
	b := make([]byte, size)
	for i := range b {
		b[i] = byte(i*7 + i>>8)
	}
	return b
}
