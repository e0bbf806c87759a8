package manifest_test

import (
	"bytes"
	"math/rand"
	"slices"
	"testing"

	"chantry/api"
	"chantry/crc"
	"chantry/manifest"
)

// notGot fails unless bytes are refused so, with nothing beside it, and are left as they were.
func notGot(t *testing.T, why string, b []byte, want api.Errno) {
	t.Helper()
	was := bytes.Clone(b)
	if m, e := manifest.Get(b); e != want || len(m.Segs) != 0 || m.Snap != (api.Part{}) {
		t.Fatalf("%s: Get(%x): %+v, %d, want %d", why, b, m, e, want)
	}
	if !bytes.Equal(b, was) {
		t.Fatalf("%s: Get(%x) has made %x of it", why, was, b)
	}
}

// noForm fails unless bytes, which are sealed first, are refused as no manifest's.
func noForm(t *testing.T, why string, b []byte) {
	t.Helper()
	notGot(t, why, crc.Seal(b), api.ErrForm)
}

// some are a few manifests that may be, small and great, with and without a Snap.
func some() []api.Manifest {
	return []api.Manifest{
		{}, {Snap: api.Part{First: 4, Size: 1, Owner: 2}}, {Segs: segs(1)}, {Segs: segs(3), Snap: api.Part{First: 65535, Size: 1 << 18, Owner: api.MaxNum}},
		{Segs: segs(8)}, longest(),
	}
}

// 12.1: what is not sealed is refused as that, be it else a manifest's or not.
func TestGetOfWhatIsNotSealed(t *testing.T) {
	notGot(t, "nil", nil, api.ErrSum)
	for size := range 120 {
		if size == 4 { // the sum of no bytes is 0
			continue
		}
		notGot(t, "zeros", make([]byte, size), api.ErrSum)
	}
	for _, m := range some() {
		b := unsealed(fields(m))
		notGot(t, "without a sum", b, api.ErrSum)
		sealed := crc.Seal(b)
		for cut := range len(sealed) {
			notGot(t, "cut off", sealed[:cut], api.ErrSum)
			if cut > 0 {
				notGot(t, "without its beginning", sealed[cut:], api.ErrSum)
			}
		}
		for n := range 256 {
			notGot(t, "with a byte more", append(bytes.Clone(sealed), byte(n)), api.ErrSum)
		}
		notGot(t, "with no sum", append(bytes.Clone(b), 0, 0, 0, 0), api.ErrSum)
		other := bytes.Clone(sealed)
		slices.Reverse(other[len(b):])
		notGot(t, "with a sum the other way round", other, api.ErrSum)
	}
	notGot(t, "neither sealed nor a manifest's", []byte("\x03men\x09\x02abcd"), api.ErrSum)
}

// 12.1: a manifest's bytes of which any are turned within 4 in a row are not sealed.
func TestGetOfTurnedBytes(t *testing.T) {
	r := rand.New(rand.NewSource(121))
	for _, m := range some() {
		whole := put(t, m)
		for i := range whole {
			for turn := 1; turn < 256; turn++ {
				b := bytes.Clone(whole)
				b[i] ^= byte(turn)
				notGot(t, "a byte is turned", b, api.ErrSum)
			}
			for wide := 2; wide <= min(4, len(whole)-i); wide++ {
				b := bytes.Clone(whole)
				for k := range wide {
					b[i+k] ^= byte(1 + r.Intn(255))
				}
				notGot(t, "bytes in a row are turned", b, api.ErrSum)
			}
		}
	}
}

// 12.1: sealed bytes that begin with another text, or with none, are no manifest's.
func TestGetOfAnotherText(t *testing.T) {
	for _, m := range some() {
		rest := unsealed(fields(m))[4:]
		for _, head := range []string{
			"", "\x00", "\x01m", "\x02ma", "\x02man", "\x03mam", "\x03mao", "\x03Man", "\x03MAN", "\x03nam", "\x03mon", "\x03\x00\x00\x00", "\x04man\x00", "\x04mann",
			"\x04man", "man", "man\x03", "\x03man\x03man", "\x83\x00man", "\x83man", "\x03ma\xee", "\x03\xedan", "\x03cha", "\xff\xff\xff\xff\x07man", "\x80\x80\x10man", "\x81\x80\x10man",
		} {
			noForm(t, "another text", append([]byte(head), rest...))
			noForm(t, "another text, and no more", []byte(head))
		}
		for i := range 4 {
			for turn := 1; turn < 256; turn++ {
				b := unsealed(fields(m))
				b[i] ^= byte(turn)
				noForm(t, "a text of which a byte is turned", b)
			}
		}
	}
}

// 12.1: sealed bytes that end too early are no manifest's, nor are such with bytes behind the end.
func TestGetOfAnotherLength(t *testing.T) {
	noForm(t, "nothing", nil)
	for _, m := range some() {
		good := unsealed(fields(m))
		for cut := range len(good) {
			noForm(t, "cut off", good[:cut])
		}
		for n := range 256 {
			noForm(t, "a byte more", append(bytes.Clone(good), byte(n)))
		}
		for _, more := range [][]byte{make([]byte, 2), make([]byte, 300), good, crc.Seal(good), {1, 9, 9, 9}, {0, 0}} {
			noForm(t, "bytes more", append(bytes.Clone(good), more...))
		}
		noForm(t, "sealed twice", crc.Seal(good))
	}
}

// 12.1: sealed bytes that tell more Segs than a manifest may have, or than are there, or fewer, are no manifest's.
func TestGetOfAnotherCount(t *testing.T) {
	for n := 9; n < 300; n += 1 + n/20 {
		m := api.Manifest{Segs: segs(n), Snap: api.Part{First: 5, Size: 7, Owner: 3}}
		for i := range m.Segs {
			m.Segs[i].Owner = i + 1
		}
		noForm(t, "too many Segs", unsealed(fields(m)))
		m.Snap = api.Part{}
		noForm(t, "too many Segs, and no Snap", unsealed(fields(m)))
	}
	for _, m := range some() {
		l := fields(m)
		for _, n := range []int{0, 1, 2, 3, 4, 5, 6, 7, 8, 9, 10, 127, 128, 255, 256, 256 + len(m.Segs), 65536, 1 << 30, api.MaxNum} {
			if n != len(m.Segs) {
				l[0] = n
				noForm(t, "another count", unsealed(l))
				noForm(t, "another count, and zeros behind", append(unsealed(l), make([]byte, 400)...))
			}
		}
	}
}

// 12.1: sealed bytes that tell neither 0 nor 1 ahead of Snap, or 1 of none, or 0 of one, are no manifest's.
func TestGetOfAnotherSnap(t *testing.T) {
	for n := range 9 {
		ahead := fields(api.Manifest{Segs: segs(n)})
		ahead = ahead[:len(ahead)-1]
		with := func(l ...int) []byte { return unsealed(append(slices.Clone(ahead), l...)) }
		if m, e := manifest.Get(crc.Seal(with(1, 5, 7, 3))); e != api.OK || !equal(m, api.Manifest{Segs: segs(n), Snap: api.Part{First: 5, Size: 7, Owner: 3}}) {
			t.Fatalf("Get: %+v, %d", m, e)
		}
		for _, there := range []int{2, 3, 8, 9, 127, 128, 129, 256, 257, 1<<16 + 1, api.MaxNum} {
			noForm(t, "neither 0 nor 1", with(there))
			noForm(t, "neither 0 nor 1, and no more", with(there, 5, 7, 3))
			noForm(t, "more than one Snap", with(there, 5, 7, 3, 6, 7, 3))
			noForm(t, "zeros behind it", with(there, 0, 0, 0))
		}
		noForm(t, "1, and the zero Part", with(1, 0, 0, 0))
		noForm(t, "1, and nothing", with(1))
		noForm(t, "1, and not all of a part", with(1, 5))
		noForm(t, "1, and not all of a part", with(1, 5, 7))
		noForm(t, "1, and more than a part", with(1, 5, 7, 3, 4))
		noForm(t, "0, and a part", with(0, 5, 7, 3))
		noForm(t, "0, and the zero Part", with(0, 0, 0, 0))
		noForm(t, "a part at once", with(5, 7, 3))
	}
}

// 12.1: numbers that are written longer than they must be, or that are none, are no manifest's.
func TestGetOfOtherNumbers(t *testing.T) {
	for _, m := range some() {
		l := fields(m)
		for at := range l {
			for _, one := range [][]byte{
				number(l[at], 1), number(l[at], 2), number(l[at], 6), {128, 128, 128, 128, 8}, {255, 255, 255, 255, 15}, {255, 255, 255, 255, 255, 1}, {128}, {255, 255, 255, 255, 255, 255, 255, 255, 255, 255}, {},
			} {
				b := unsealed(l[:at])
				b = append(b, one...)
				b = append(b, unsealed(l[at+1:])[4:]...)
				noForm(t, "another number", b)
			}
		}
	}
	for _, ahead := range []string{"\x03man", "\x03man\x00", "\x03man\x00\x01\x05\x07"} {
		noForm(t, "a number that does not end", append([]byte(ahead), bytes.Repeat([]byte{128}, 200)...))
	}
}

// 12.1: sealed bytes of a manifest that may not be are no manifest's, for each number of each part.
func TestGetOfWhatMayNotBe(t *testing.T) {
	isNumber := func(n int) bool { return n >= 0 && n <= api.MaxNum }
	for _, m := range some() {
		l := fields(m)
		try := func(at int, ns []int) {
			for _, n := range ns {
				if isNumber(n) {
					other := slices.Clone(l)
					other[at] = n
					noForm(t, "a part that may not be", unsealed(other))
				}
			}
		}
		for i := range manifest.Parts(m) {
			at := 1 + 3*i
			if i == len(m.Segs) {
				at++ // behind whether there is a Snap
			}
			try(at, noFirsts)
			try(at+1, noSizes)
			try(at+2, noOwners)
			for k := range i {
				other := slices.Clone(l)
				other[at] = l[1+3*k]
				noForm(t, "two parts of one First", unsealed(other))
			}
		}
	}
}

// read is the tests' own way to read a manifest's bytes: it answers false of what is none's.
func read(b []byte) (api.Manifest, bool) {
	m, wrong := api.Manifest{}, !bytes.HasPrefix(b, []byte("\x03man"))
	if wrong {
		return m, false
	}
	b = b[4:]
	next := func() int {
		n, i := 0, 0
		for ; i < len(b) && i < 4 && b[i] > 127; i++ {
			n |= int(b[i]&127) << (7 * i)
		}
		if i == len(b) || i == 4 && b[i] > 7 || i > 0 && b[i] == 0 {
			wrong = true
			return 0
		}
		n |= int(b[i]) << (7 * i)
		b = b[i+1:]
		return n
	}
	part := func() api.Part {
		var p api.Part
		p.First = next()
		p.Size = next()
		p.Owner = next()
		wrong = wrong || p.First < 1 || p.First > 65535 || p.Size < 1 || p.Size > 1<<18 || p.Owner < 1
		return p
	}
	many := next()
	if many > 8 {
		return m, false
	}
	seen := map[int]bool{}
	for range many {
		m.Segs = append(m.Segs, part())
	}
	there := next()
	if there == 1 {
		m.Snap = part()
		seen[m.Snap.First] = true
	}
	for _, p := range m.Segs {
		wrong = wrong || seen[p.First]
		seen[p.First] = true
	}
	return m, !wrong && there <= 1 && len(b) == 0
}

// 12.1, 12.2: of any sealed bytes Get answers a manifest just where these are its bytes, and then it is put as them.
func TestGetOfAnySealedBytes(t *testing.T) {
	r := rand.New(rand.NewSource(122))
	known, all := 0, goods()
	for range 60000 {
		b := unsealed(fields(all[r.Intn(len(all))]))
		for range r.Intn(3) {
			at := r.Intn(len(b))
			x := []byte{0, 1, 2, 3, 8, 9, 127, 128, 255, byte(r.Intn(256))}[r.Intn(10)]
			switch r.Intn(4) {
			case 0:
				b = slices.Insert(b, at, x)
			case 1:
				b = slices.Delete(b, at, min(len(b), at+1+r.Intn(3)))
			default:
				b[at] = x
			}
		}
		sealed := crc.Seal(b)
		want, ok := read(b)
		if !ok {
			notGot(t, "any", sealed, api.ErrForm)
			continue
		}
		known++
		m, e := manifest.Get(sealed)
		if e != api.OK || !equal(m, want) {
			t.Fatalf("Get(%x): %+v, %d, want %+v", sealed, m, e, want)
		}
		if again := put(t, m); !bytes.Equal(again, sealed) || len(sealed) > 109 {
			t.Fatalf("Get(%x): %+v, and put again: %x", sealed, m, again)
		}
	}
	if known < 10000 || known > 50000 {
		t.Fatalf("%d of them were manifests", known)
	}
}

// 12.1: short sealed bytes, all of them behind the text, are a manifest's or not as the document says.
func TestGetOfAllShortBytes(t *testing.T) {
	for n := range 1 << 16 {
		for _, b := range [][]byte{{byte(n), byte(n >> 8)}, {0, 1, 5, byte(n), byte(n >> 8)}, {1, byte(n), 7, 3, byte(n >> 8)}, {0, byte(n), byte(n >> 8), 7, 3}} {
			sealed := crc.Seal(append([]byte("\x03man"), b...))
			want, ok := read(sealed[:len(sealed)-4])
			m, e := manifest.Get(sealed)
			if ok && (e != api.OK || !equal(m, want)) || !ok && (e != api.ErrForm || !equal(m, api.Manifest{})) {
				t.Fatalf("Get(%x): %+v, %d, want %+v, %t", sealed, m, e, want, ok)
			}
		}
	}
}

// R4: what is got shares nothing with the bytes, nor with what else is got of them.
func TestGotStandsAlone(t *testing.T) {
	for _, m := range some() {
		b := put(t, m)
		behind := append(bytes.Clone(b), make([]byte, 64)...)
		room := behind[:len(b)]
		one, e := manifest.Get(room)
		two, f := manifest.Get(room)
		if e != api.OK || f != api.OK || !bytes.Equal(room, b) {
			t.Fatalf("Get(%x): %d, %d; it has become %x", b, e, f, room)
		}
		clear(room)
		if !equal(one, m) {
			t.Fatalf("what was got has become %+v", one)
		}
		copy(room, b)
		clear(one.Segs)
		_ = append(one.Segs, segs(8)...)
		if !equal(two, m) || !bytes.Equal(room, b) || !bytes.Equal(behind[len(b):], make([]byte, 64)) {
			t.Fatalf("beside it %+v was got, of %x", two, behind)
		}
	}
}
