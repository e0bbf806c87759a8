package update_test

import (
	"math/rand"
	"slices"
	"strings"
	"testing"

	"chantry/api"
	"chantry/op"
	"chantry/update"
)

// notGot fails unless bytes are refused as that, with nothing beside it, and are left as they were.
func notGot(t *testing.T, why, s string, want api.Errno) {
	t.Helper()
	b := []byte(s)
	if u, e := update.Get(b); e != want || !nothing(u) {
		t.Fatalf("%s: Get(%x): %#v, %d, want %d", why, s, u, e, want)
	}
	if string(b) != s {
		t.Fatalf("%s: Get(%x) has made %x of it", why, s, b)
	}
}

// never fails unless bytes are no update's.
func never(t *testing.T, why, s string) {
	t.Helper()
	if len(s) > 384 {
		t.Fatalf("%s: the test is wrong: %x is too long", why, s)
	}
	notGot(t, why, s, api.ErrForm)
}

// 15.1: of no bytes, and of one, nothing is got.
func TestGetOfNothing(t *testing.T) {
	for _, b := range [][]byte{nil, {}} {
		if u, e := update.Get(b); e != api.ErrForm || !nothing(u) {
			t.Fatalf("Get(%v): %#v, %d", b, u, e)
		}
	}
	for n := range 256 {
		never(t, "one byte", string([]byte{byte(n)}))
	}
}

// 15.1: more than MaxUpdate bytes are too long, whatever they are; just so many are no update's, but not too long.
func TestGetOfTooLong(t *testing.T) {
	for _, c := range []string{"\x00", "\x01", "\x07", "\xff"} {
		for size := 340; size < 430; size++ {
			s := strings.Repeat(c, size)
			if size <= 384 {
				never(t, "bytes of one kind", s)
				continue
			}
			notGot(t, "bytes of one kind", s, api.ErrLong)
		}
		for _, size := range []int{512, 640, 768, 1 << 16, 1<<16 + 3, 1<<18 + 1, 1 << 20} {
			notGot(t, "bytes of one kind", strings.Repeat(c, size), api.ErrLong)
		}
	}
	eachGood(func(_ api.Update, s string) {
		never(t, "an update that goes on", s+strings.Repeat("\x00", 384-len(s)))
		notGot(t, "an update that goes on", s+strings.Repeat("\x00", 385-len(s)), api.ErrLong)
		notGot(t, "an update that goes on", strings.Repeat(s, 385/len(s)+1), api.ErrLong)
	})
	longest := encoded(3, rising(11), deeds()[11])
	notGot(t, "too many Preds", longest, api.ErrLong)
}

// 15.1: bytes that end too early, at whichever place, are no update's.
func TestGetOfBytesCutOff(t *testing.T) {
	for _, preds := range somePreds() {
		for _, d := range deeds() {
			s := encoded(3, preds, d)
			for cut := range len(s) {
				never(t, "cut off", s[:cut])
			}
		}
	}
}

// 15.1: bytes that go on behind the operation are no update's.
func TestGetOfBytesThatGoOn(t *testing.T) {
	for _, preds := range somePreds() {
		for _, d := range deeds() {
			s := encoded(3, preds, d)
			for n := range 256 {
				never(t, "a byte more", s+string([]byte{byte(n)}))
			}
			for _, tail := range []string{"\x00\x00", "\x07\x07", "\x03\x00\x07", "\x01\x01n\x00\x05\x00\x00\x00", strings.Repeat("\x00", 30), strings.Repeat("\xff", 30)} {
				never(t, "more behind it", s+tail)
			}
			if 2*len(s) <= 384 {
				never(t, "twice", s+s)
			}
			never(t, "a byte ahead", "\x03"+s)
		}
	}
}

// 15.1: bytes that tell more Preds than there may be are no update's, also where all of them stand there.
func TestGetOfTooManyPreds(t *testing.T) {
	for many := 9; many < 256; many++ {
		head := string([]byte{3, byte(many)})
		for _, d := range deeds() {
			never(t, "too many", head+d.bytes)
			never(t, "too many", head+strings.Join(rising(8), "")+d.bytes)
			if all := head + strings.Join(rising(min(many, 20)), "") + d.bytes; len(all) <= 384 {
				never(t, "too many", all)
			}
		}
		for _, c := range []string{"\x00", "\x07", "\xff"} {
			never(t, "too many", head+strings.Repeat(c, 382))
		}
	}
	for _, many := range []int{9, 10, 11} { // as many as are told, and as there is room for
		s := string([]byte{0, byte(many)}) + strings.Join(rising(many), "") + "\x07"
		never(t, "too many, and a merge", s)
	}
}

// 15.1: bytes that tell more Preds, or fewer, than stand there are no update's.
func TestGetOfOtherThanTold(t *testing.T) {
	for many := range 9 {
		for told := range 256 {
			for _, d := range deeds() {
				s := string([]byte{3, byte(told)}) + strings.Join(rising(many), "") + d.bytes
				if told == many {
					got(t, s, api.Update{Author: 3, Preds: rising(many), Op: d.op})
					continue
				}
				never(t, "told otherwise", s)
			}
		}
	}
}

// 15.1: bytes whose Preds do not rise are no update's.
func TestGetOfPredsThatDoNotRise(t *testing.T) {
	known := 0
	for _, preds := range noPreds() {
		if slices.ContainsFunc(preds, func(id string) bool { return len(id) != 32 }) {
			continue
		}
		known++
		for _, d := range deeds() {
			for _, author := range []int{0, 3, 255} {
				never(t, "they do not rise", encoded(author, preds, d))
			}
		}
	}
	if known < 20 {
		t.Fatalf("%d of them", known)
	}
}

// 15.1: bytes with an operation that may not be are no update's.
func TestGetOfNoOp(t *testing.T) {
	for _, preds := range somePreds() {
		head := string([]byte{3, byte(len(preds))}) + strings.Join(preds, "")
		never(t, "no operation", head)
		for kind := range 256 {
			one := string([]byte{byte(kind)})
			if kind == 7 {
				continue
			}
			never(t, "a kind alone", head+one)
			if kind >= 1 && kind <= 6 {
				continue
			}
			for _, d := range deeds() {
				never(t, "no kind", head+one+d.bytes[1:])
			}
		}
		for _, s := range []string{
			"\x01\x00\x00\x05\x00\x00\x00", "\x01\x01N\x00\x05\x00\x00\x00", "\x01\x81\x00n\x00\x05\x00\x00\x00", "\x01\x01n\x02\x05\x00\x00\x00", "\x01\x01n\x01\x00\x00\x00\x00", "\x01\x01n\x00\x00\x00\x00\x80", "\x01\x0dabcdefghijklm\x00\x05\x00\x00\x00",
			"\x02\x01s\x31" + strings.Repeat("x", 49), "\x02\x01s\x82\x00ab", "\x03\x01s\x02a", "\x04\x00\x02ab",
			"\x05\x01l\x00\x00", "\x05\x01l\x00\x01" + id(9), "\x05\x01l\x02ab", "\x05\x01l\x02ab\x02", "\x05\x01l\x02ab\x02" + id(9), "\x05\x01l\x02ab\x00" + id(9), "\x05\x01l\x02ab\x01" + id(9)[:31],
			"\x06\x01l", "\x06\x01l\x01" + id(9), "\x06\x01l" + id(9)[:31], "\x06\x01l\x00", "\x06\x00" + id(9),
		} {
			never(t, "an operation that may not be", head+s)
		}
	}
}

// read is the tests' own way to read an update: it goes by places in the bytes, and asks layer 14 of what stands behind the Preds alone.
func read(b []byte) (api.Update, bool) {
	if len(b) < 3 || b[1] > 8 || len(b) < 3+32*int(b[1]) {
		return api.Update{}, false
	}
	u := api.Update{Author: int(b[0])}
	for i := range int(b[1]) {
		at := 2 + 32*i
		u.Preds = append(u.Preds, string(b[at:at+32]))
		if i > 0 && u.Preds[i-1] >= u.Preds[i] {
			return api.Update{}, false
		}
	}
	rest := b[2+32*int(b[1]):]
	o, size, e := op.Get(rest)
	u.Op = o
	return u, e == api.OK && size == len(rest)
}

// held fails unless Get answers of these bytes what the tests' own reader does, and it is put as just these; it answers whether they were an update's.
func held(t *testing.T, b []byte) bool {
	t.Helper()
	if len(b) > 384 {
		notGot(t, "any", string(b), api.ErrLong)
		return false
	}
	want, ok := read(b)
	if !ok {
		never(t, "any", string(b))
		return false
	}
	got(t, string(b), want)
	return true
}

// 15.1, 15.2: of any bytes that are near an update's Get answers one just where they are its bytes.
func TestGetOfBytesThatAreNear(t *testing.T) {
	r := rand.New(rand.NewSource(15))
	var all []string
	eachGood(func(_ api.Update, s string) { all = append(all, s) })
	known := 0
	const rounds = 200000
	for range rounds {
		b := []byte(all[r.Intn(len(all))])
		for range 1 + r.Intn(2) {
			at := r.Intn(len(b))
			if r.Intn(4) == 0 {
				at = min(len(b)-1, r.Intn(3)) // the first bytes tell how it goes on
			}
			x := []byte{0, 1, 2, 3, 7, 8, 9, 32, 127, 128, 255, 'a', '-', byte(r.Intn(256))}[r.Intn(14)]
			switch r.Intn(5) {
			case 0:
				b = slices.Insert(b, at, x)
			case 1:
				b = slices.Delete(b, at, min(len(b), at+1+r.Intn(33)))
			default:
				b[at] = x
			}
			if len(b) == 0 {
				b = append(b, x)
			}
		}
		if held(t, b) {
			known++
		}
	}
	if known < rounds/10 || known > rounds*9/10 {
		t.Fatalf("%d of them were updates", known)
	}
}

// 15.1, 15.2: of an update's bytes with each byte made each other one Get answers what the document says.
func TestGetOfEachByteTurned(t *testing.T) {
	for _, many := range []int{0, 1, 2} { // more of them: the test of bytes that are near
		for _, d := range deeds() {
			s := encoded(3, rising(many), d)
			for at := range len(s) {
				for n := range 256 {
					b := []byte(s)
					b[at] = byte(n)
					held(t, b)
				}
			}
		}
	}
}

// 15.1: all bytes at the places that tell how it goes on.
func TestGetOfAllShortBytes(t *testing.T) {
	known := 0
	for n := range 1 << 16 {
		x, y := byte(n), byte(n>>8)
		for _, b := range [][]byte{{x, y}, {x, 0, y}, {x, y, 7}, {3, x, y}, {3, 0, x, y}, append([]byte(string([]byte{3, x})+id(5)), y), append([]byte(string([]byte{x, 1})+id(5)), y)} {
			if held(t, b) {
				known++
			}
		}
	}
	if want := 256 + 256 + 1 + 1 + 256; known != want {
		t.Fatalf("%d of them were updates, want %d", known, want)
	}
}

// R4: what is got shares nothing with the bytes, nor do the bytes behind them change.
func TestGotStandsAlone(t *testing.T) {
	eachGood(func(want api.Update, s string) {
		all := []byte(s + strings.Repeat("\x55", 64))
		u, e := update.Get(all[:len(s)])
		other, f := update.Get(all[:len(s)])
		if e != api.OK || f != api.OK || string(all) != s+strings.Repeat("\x55", 64) {
			t.Fatalf("Get(%x): %d, %d; it has become %x", s, e, f, all)
		}
		for i := range all {
			all[i] = 'q'
		}
		if !alike(u, want) {
			t.Fatalf("what was got of %x has become %#v", s, u)
		}
		_ = append(u.Preds, "x")
		for i := range u.Preds {
			u.Preds[i] = "x"
		}
		if !alike(other, want) {
			t.Fatalf("what was got of %x has become %#v", s, other)
		}
	})
}
