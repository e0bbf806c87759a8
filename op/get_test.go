package op_test

import (
	"bytes"
	"encoding/hex"
	"math/rand"
	"slices"
	"strings"
	"testing"

	"chantry/api"
	"chantry/op"
)

// notGot fails unless bytes are refused, with nothing beside it, and are left as they were.
func notGot(t *testing.T, why, s string) {
	t.Helper()
	b := []byte(s)
	if o, size, e := op.Get(b); e != api.ErrForm || size != 0 || o != (api.Op{}) {
		t.Fatalf("%s: Get(%x): %#v, %d, %d", why, s, o, size, e)
	}
	if string(b) != s {
		t.Fatalf("%s: Get(%x) has made %x of it", why, s, b)
	}
}

// tails are what may stand behind bytes, none of which makes an operation of what is none.
func tails() []string {
	return []string{"", "\x00", "\x01", "a", strings.Repeat("\x00", 200), strings.Repeat("\x01", 200), strings.Repeat("a", 200), strings.Repeat("\xff", 200)}
}

// never fails unless bytes are refused whatever stands behind them.
func never(t *testing.T, why, s string) {
	t.Helper()
	for _, tail := range tails() {
		notGot(t, why, s+tail)
	}
}

// 14.2: of no bytes nothing is got.
func TestGetOfNothing(t *testing.T) {
	for _, b := range [][]byte{nil, {}} {
		if o, size, e := op.Get(b); e != api.ErrForm || size != 0 || o != (api.Op{}) {
			t.Fatalf("Get(%v): %#v, %d, %d", b, o, size, e)
		}
	}
}

// 14.2: of a kind that is none nothing is got, whatever stands behind it.
func TestGetOfNoKind(t *testing.T) {
	for kind := range 256 {
		if kind >= 1 && kind <= 7 {
			continue
		}
		one := string([]byte{byte(kind)})
		never(t, "no kind", one)
		for _, o := range goods() {
			notGot(t, "no kind", one+encoded(o)[1:])
		}
		never(t, "no kind", one+encoded(api.Op{Kind: 6, Name: "n", At: id(1)}))
	}
}

// 14.2: bytes that end too early, at whichever place, are no operation's.
func TestGetOfBytesCutOff(t *testing.T) {
	for _, o := range goods() {
		s := encoded(o)
		for cut := range len(s) {
			notGot(t, "cut off", s[:cut])
		}
		got(t, s, o, len(s))
	}
}

// 14.2: bytes that go on, as far as may be, are no less an operation's.
func TestGetOfBytesThatGoOn(t *testing.T) {
	for _, o := range few() {
		s := encoded(o)
		for n := range 256 {
			got(t, s+string([]byte{byte(n)}), o, len(s))
		}
		for size := range 130 {
			got(t, s+strings.Repeat("\x81", size), o, len(s))
		}
		for _, other := range few() {
			got(t, s+encoded(other), o, len(s))
		}
		got(t, s+strings.Repeat("\x00", 1<<20), o, len(s))
	}
}

// 14.2: bytes with a name that is too long, or may not be, are no operation's.
func TestGetOfNoName(t *testing.T) {
	text := func(s string) string { return string([]byte{byte(len(s))}) + s }
	for kind := 1; kind <= 6; kind++ {
		head := string([]byte{byte(kind)})
		rest := strings.TrimPrefix(encoded(map[int]api.Op{
			1: {Kind: 1, Name: "n", N: 5}, 2: {Kind: 2, Name: "n", Text: "ab"}, 3: {Kind: 3, Name: "n"}, 4: {Kind: 4, Name: "n", Text: "x"},
			5: {Kind: 5, Name: "n", Text: "ab", At: id(3)}, 6: {Kind: 6, Name: "n", At: id(3)},
		}[kind]), head+"\x01n")
		if _, _, e := op.Get([]byte(head + text("n") + rest)); e != api.OK {
			t.Fatalf("kind %d: %d", kind, e)
		}
		for _, name := range append([]string{""}, noNames...) {
			if len(name) < 128 {
				never(t, "no name", head+text(name)+rest)
				continue
			}
			size := string([]byte{byte(len(name))&127 | 128, byte(len(name) >> 7)})
			never(t, "no name", head+size+name+rest)
		}
		for _, size := range []string{"\x81\x00", "\x81\x80\x00", "\x8c\x00", "\x80", "\xff\xff\xff\xff\x0f", "\xff\xff\xff\xff\x07", "\x81\x80\x10", "\xff\xff\x0f", "\xff\xff\xff\xff\xff\xff\xff\xff\xff\x01"} {
			never(t, "a name of a wrong length", head+size+"n"+rest)
			never(t, "a name of a wrong length", head+size+"nnnnnnnnnnnn"+rest)
		}
		never(t, "a name of more than MaxBytes", head+"\x81\x80\x10"+strings.Repeat("n", 1<<18+1)+rest)
	}
}

// 14.2: bytes with a text that is too long, or may not be, are no operation's.
func TestGetOfNoText(t *testing.T) {
	for kind := 2; kind <= 5; kind++ {
		head := string([]byte{byte(kind)}) + "\x01n"
		for size := 49; size < 128; size++ {
			never(t, "a text too long", head+string([]byte{byte(size)})+strings.Repeat("x", size)+"\x00")
		}
		for _, size := range []string{"\x81\x00", "\x82\x80\x00", "\x80\x00", "\x80\x01", "\xb0\x00", "\xb0\x01", "\xb0\x02", "\xff\xff\xff\xff\x07", "\xff\xff\xff\xff\x0f", "\x81\x80\x10"} {
			for _, long := range []int{0, 1, 2, 48, 128, 176, 304, 1 << 12} {
				never(t, "a text of a wrong length", head+size+strings.Repeat("x", long))
				never(t, "a text of a wrong length", head+size+strings.Repeat("\x00", long))
			}
		}
		never(t, "a text of more than MaxBytes", head+"\x81\x80\x10"+strings.Repeat("x", 1<<18+1))
	}
	for _, name := range names {
		head := "\x05" + string([]byte{byte(len(name))}) + name
		never(t, "an insert with no text", head+"\x00"+"\x00")
		never(t, "an insert with no text", head+"\x00"+"\x01"+id(3))
	}
}

// 14.2: bytes with a number that is told otherwise than it is put are no operation's.
func TestGetOfNoNumber(t *testing.T) {
	for _, name := range names {
		head := "\x01" + string([]byte{byte(len(name))}) + name
		for _, n := range numbers {
			size := string([]byte{byte(n), byte(n >> 8), byte(n >> 16), byte(n >> 24)})
			got(t, head+"\x00"+size, api.Op{Kind: 1, Name: name, N: n}, len(head)+5)
			for sign := 2; sign < 256; sign++ {
				notGot(t, "a sign that is none", head+string([]byte{byte(sign)})+size)
				notGot(t, "a sign that is none", head+string([]byte{byte(sign)})+size+"\x00\x00")
			}
			if n == 0 {
				never(t, "0 with a sign", head+"\x01"+size)
				continue
			}
			got(t, head+"\x01"+size, api.Op{Kind: 1, Name: name, N: -n}, len(head)+5)
		}
		for _, size := range []string{"\x00\x00\x00\x80", "\x01\x00\x00\x80", "\x05\x00\x00\x80", "\xff\xff\xff\xff", "\xff\xff\xff\x80", "\x00\x00\x00\xff", "\x01\x00\x00\xff"} {
			never(t, "past MaxNum", head+"\x00"+size)
			never(t, "below -MaxNum", head+"\x01"+size)
			never(t, "no sign, and no number", head+"\x02"+size)
		}
	}
}

// 14.2: of an insert just 0 and 1 tell whether it has an At.
func TestGetOfNoAt(t *testing.T) {
	for _, text := range texts {
		head := "\x05\x01l" + string([]byte{byte(len(text))}) + text
		got(t, head+"\x00"+id(3), api.Op{Kind: 5, Name: "l", Text: text}, len(head)+1)
		got(t, head+"\x01"+id(3), api.Op{Kind: 5, Name: "l", Text: text, At: id(3)}, len(head)+33)
		for there := 2; there < 256; there++ {
			notGot(t, "neither 0 nor 1", head+string([]byte{byte(there)}))
			notGot(t, "neither 0 nor 1", head+string([]byte{byte(there)})+id(3))
			notGot(t, "neither 0 nor 1", head+string([]byte{byte(there)})+id(0)+id(1))
		}
		for size := range 32 {
			notGot(t, "1, and no ID", head+"\x01"+id(3)[:size])
		}
	}
}

// 14.2: the At of a delete stands there without a byte ahead of it.
func TestGetOfDelete(t *testing.T) {
	for _, c := range []string{"\x00", "\x01", "\x02", "\xff"} {
		at := c + id(7)[:31]
		got(t, "\x06\x01l"+at, api.Op{Kind: 6, Name: "l", At: at}, 35)
		got(t, "\x06\x01l"+at+"\x07", api.Op{Kind: 6, Name: "l", At: at}, 35)
	}
	notGot(t, "a delete with nothing", "\x06\x01l")
	notGot(t, "a delete with 0", "\x06\x01l\x00")
	for size := range 32 {
		notGot(t, "a delete with too little", "\x06\x01l"+id(1)[:size])
	}
}

// 14.2: bytes of other forms, to the letter.
func TestGetToTheLetter(t *testing.T) {
	for _, s := range []string{
		"00", "08", "ff", "8100", "09", "01", "0101", "01016e", "01016e00", "01016e0005", "01016e000500", "01016e00050000", // what ends too early
		"01000005000000", "01014e0005000000", "01015f0005000000", "0101200005000000", "0101800005000000", "0102c3a90005000000", // names that are none
		"010d6162636465666768696a6b6c6d0005000000", "01810061" + "0005000000", "01016e0100000000", "01016e0205000000", "01016eff05000000", "01016e0000000080", "01016e01000000ff",
		"020173", "02017301", "0201730261", "02017331" + strings.Repeat("61", 49), "0201738100" + "61", "0301738000", "04017280" + "01" + strings.Repeat("61", 128),
		"05016c", "05016c0161", "05016c0000", "05016c016102", "05016c016101" + strings.Repeat("09", 31), "05016c0001" + strings.Repeat("09", 32), "06016c" + strings.Repeat("09", 31), "0600" + strings.Repeat("09", 32),
	} {
		b, err := hex.DecodeString(s)
		if err != nil {
			t.Fatal(s, err)
		}
		notGot(t, "to the letter", string(b))
	}
}

// read is the tests' own way to read an operation at the beginning of bytes: it answers false if there is none.
func read(b []byte) (api.Op, int, bool) {
	if len(b) == 0 || b[0] < 1 || b[0] > 7 {
		return api.Op{}, 0, false
	}
	o, at := api.Op{Kind: int(b[0])}, 1
	wrong := false
	next := func(n int) []byte {
		if wrong || at+n > len(b) {
			wrong = true
			return make([]byte, n)
		}
		at += n
		return b[at-n : at]
	}
	if o.Kind == 7 {
		return o, 1, true
	}
	size := int(next(1)[0])
	wrong = wrong || size > 12
	o.Name = string(next(size))
	if o.Kind == 1 {
		l := next(5)
		o.N = int(l[1]) | int(l[2])<<8 | int(l[3])<<16 | int(l[4])<<24
		wrong = wrong || l[0] > 1 || l[4] > 127 || l[0] == 1 && o.N == 0
		o.N -= 2 * o.N * int(l[0]%2)
	}
	if o.Kind >= 2 && o.Kind <= 5 {
		size = int(next(1)[0])
		wrong = wrong || size > 48
		o.Text = string(next(size))
	}
	has := o.Kind == 6
	if o.Kind == 5 {
		there := next(1)[0]
		wrong = wrong || there > 1
		has = there == 1
	}
	if has {
		o.At = string(next(32))
	}
	return o, at, !wrong && fits(o)
}

// held fails unless Get answers of these bytes what the tests' own reader does, and it is put as these very bytes; it answers whether they were an operation's.
func held(t *testing.T, b []byte) bool {
	t.Helper()
	want, size, ok := read(b)
	if !ok {
		notGot(t, "any", string(b))
		return false
	}
	got(t, string(b), want, size)
	if again, e := op.Put(want); e != api.OK || !bytes.Equal(again, b[:size]) {
		t.Fatalf("Get(%x): %#v, and put again: %x, %d", b, want, again, e)
	}
	return true
}

// 14.2, 14.3: of any bytes that are near an operation's Get answers one just where they begin with its bytes.
func TestGetOfBytesThatAreNear(t *testing.T) {
	r := rand.New(rand.NewSource(14))
	known, all := 0, goods()
	const rounds = 200000
	for range rounds {
		b := []byte(encoded(all[r.Intn(len(all))]))
		for range 1 + r.Intn(2) {
			at := r.Intn(len(b))
			x := []byte{0, 1, 2, 5, 6, 12, 13, 32, 48, 49, 127, 128, 255, 'a', '-', byte(r.Intn(256))}[r.Intn(16)]
			switch r.Intn(4) {
			case 0:
				b = slices.Insert(b, at, x)
			case 1:
				b = slices.Delete(b, at, min(len(b), at+1+r.Intn(3)))
			default:
				b[at] = x
			}
			if len(b) == 0 {
				b = append(b, x)
			}
		}
		if held(t, append(b, tails()[r.Intn(len(tails()))]...)) {
			known++
		}
	}
	if known < rounds/5 || known > rounds*4/5 {
		t.Fatalf("%d of them were operations", known)
	}
}

// 14.2: of an operation's bytes with each byte made each other one Get answers what the document says.
func TestGetOfEachByteTurned(t *testing.T) {
	for _, o := range few() {
		for at := range len(encoded(o)) {
			for n := range 256 {
				b := []byte(encoded(o))
				b[at] = byte(n)
				held(t, b)
				held(t, append(b, strings.Repeat("\x00", 200)...))
				held(t, append(b, strings.Repeat("a", 200)...))
			}
		}
	}
}

// 14.2: all bytes at the places that tell how it goes on, behind each kind.
func TestGetOfAllShortBytes(t *testing.T) {
	for n := range 1 << 16 {
		x, y := byte(n), byte(n>>8)
		for _, b := range [][]byte{
			{x, y}, {x, 1, 'n', y}, {x, 1, 'n', 1, 'x', y}, {1, x, 'n', y, 5, 0, 0, 0}, {1, 1, 'n', x, y, 0, 0, 0}, {1, 1, 'n', x, 0, 0, 0, y}, {1, 1, x, 1, 0, 0, 0, y},
			{2, 2, x, y, 0}, {3, 1, x, 1, y}, {4, 1, 'n', x, y}, {5, 1, 'n', x, 'x', y}, {7, x, y},
		} {
			held(t, b)
		}
	}
}

// R4: what is got shares nothing with the bytes, nor do the bytes behind it change.
func TestGotStandsAlone(t *testing.T) {
	for _, want := range few() {
		behind := []byte(encoded(want) + strings.Repeat("\x55", 64))
		room := behind[:len(encoded(want))]
		o, size, e := op.Get(room)
		if e != api.OK || size != len(room) || string(behind) != encoded(want)+strings.Repeat("\x55", 64) {
			t.Fatalf("Get(%x): %d, %d; it has become %x", room, size, e, behind)
		}
		for i := range behind {
			behind[i] = 'q'
		}
		if o != want || op.Show(o) != line(want) {
			t.Fatalf("what was got has become %#v", o)
		}
	}
}
