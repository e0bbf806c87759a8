package sha_test

import (
	"bytes"
	"math/big"
	"slices"
	"strings"
	"testing"

	"chantry/sha"
)

// edges are sizes about where a block ends, and about where a tail has no more room in it.
var edges = []int{0, 1, 2, 3, 4, 54, 55, 56, 57, 62, 63, 64, 65, 66, 118, 119, 120, 121, 127, 128, 129, 183, 184, 191, 192, 193, 384, 1000}

// sample answers so many bytes without an order that is easily seen, the same each time.
func sample(size int) []byte {
	n := uint64(size) + 1
	b := make([]byte, size)
	for i := range b {
		n = n*6364136223846793005 + 1442695040888963407
		b[i] = byte(n >> 56)
	}
	return b
}

// standard is SHA-256 as FIPS 180-4 words it, with all bytes at once, and with numbers that are worked out of the primes.
type standard struct {
	first  []uint64 // of square roots
	rounds []uint64 // of cube roots
}

const word = 1 << 32

func newStandard() standard {
	var s standard
	for _, p := range primes(64) {
		s.rounds = append(s.rounds, behindPoint(p, 3))
		if len(s.first) < 8 {
			s.first = append(s.first, behindPoint(p, 2))
		}
	}
	return s
}

func primes(count int) []int64 {
	var l []int64
	for n := int64(2); len(l) < count; n++ {
		if big.NewInt(n).ProbablyPrime(0) {
			l = append(l, n)
		}
	}
	return l
}

// behindPoint answers the first 32 bits behind the point of n's root of that degree.
func behindPoint(n int64, degree int64) uint64 {
	power := big.NewInt(degree)
	goal := new(big.Int).Lsh(big.NewInt(n), uint(32*degree))
	root := new(big.Int)
	for bit := 40; bit >= 0; bit-- {
		more := new(big.Int).SetBit(root, bit, 1)
		if new(big.Int).Exp(more, power, nil).Cmp(goal) <= 0 {
			root = more
		}
	}
	return root.Uint64() % word
}

func (s standard) id(b []byte) string {
	all := append(bytes.Clone(b), 128)
	for len(all)%64 != 56 {
		all = append(all, 0)
	}
	all = append(all, big.NewInt(int64(len(b))*8).FillBytes(make([]byte, 8))...)
	state := s.first
	for ; len(all) > 0; all = all[64:] {
		state = s.behindBlock(state, all[:64])
	}
	var id strings.Builder
	for _, w := range state {
		id.Write(big.NewInt(int64(w)).FillBytes(make([]byte, 4)))
	}
	return id.String()
}

func (s standard) behindBlock(was []uint64, block []byte) []uint64 {
	var w []uint64
	for t := range 64 {
		if t < 16 {
			w = append(w, new(big.Int).SetBytes(block[4*t:4*t+4]).Uint64())
			continue
		}
		small0 := turn(w[t-15], 7) ^ turn(w[t-15], 18) ^ w[t-15]/8
		small1 := turn(w[t-2], 17) ^ turn(w[t-2], 19) ^ w[t-2]/1024
		w = append(w, (small1+w[t-7]+small0+w[t-16])%word)
	}
	v := slices.Clone(was)
	for t := range 64 {
		big1 := turn(v[4], 6) ^ turn(v[4], 11) ^ turn(v[4], 25)
		t1 := v[7] + big1 + (v[4]&v[5] | (word-1-v[4])&v[6]) + s.rounds[t] + w[t]
		big0 := turn(v[0], 2) ^ turn(v[0], 13) ^ turn(v[0], 22)
		t2 := big0 + (v[0]&v[1] | v[0]&v[2] | v[1]&v[2])
		v = append([]uint64{(t1 + t2) % word}, v[:7]...)
		v[4] = (v[4] + t1) % word
	}
	for i := range v {
		v[i] = (v[i] + was[i]) % word
	}
	return v
}

func turn(w uint64, n int) uint64 {
	return (w<<32 | w) >> n % word
}

func hexed(id string) string {
	const digits = "0123456789abcdef"
	var text []byte
	for i := range len(id) {
		text = append(text, digits[id[i]>>4], digits[id[i]&15])
	}
	return string(text)
}

// checkHash holds what a hash tells against what was added to it.
func checkHash(t *testing.T, s standard, h *sha.Hash, added []byte) {
	t.Helper()
	if got := h.Size(); got != len(added) {
		t.Errorf("Size: %d, want %d", got, len(added))
	}
	if got, want := h.Sum(), s.id(added); got != want {
		t.Errorf("Sum of %x: %s, want %s", added, hexed(got), hexed(want))
	}
}

// 3.1: the chapter's example, and those of the standard: no bytes, two blocks of which the last holds the tail alone, and more.
func TestID(t *testing.T) {
	for _, c := range []struct{ b, want string }{
		{"", "e3b0c44298fc1c149afbf4c8996fb92427ae41e4649b934ca495991b7852b855"},
		{"abc", "ba7816bf8f01cfea414140de5dae2223b00361a396177a9cb410ff61f20015ad"},
		{"\x00", "6e340b9cffb37a989ca544e6bb780a2c78901d3fb33738768511a30617afa01d"},
		{"\xff", "a8100ae6aa1940d0b663bb31cd466142ebbdbd5187131b92d93818987832eb89"},
		{"\xc9\x8c\x8e\x55", "7abc22c0ae5af26ce93dbb94433a0e0b2e119d014f8e7f65bd56c61ccccd9504"},
		{"abcdbcdecdefdefgefghfghighijhijkijkljklmklmnlmnomnopnopq", "248d6a61d20638b8e5c026930c3e6039a33ce45964ff2167f6ecedd419db06c1"},
		{"abcdefghbcdefghicdefghijdefghijkefghijklfghijklmghijklmnhijklmnoijklmnopjklmnopqklmnopqrlmnopqrsmnopqrstnopqrstu", "cf5b16a778af8380036ce59e7b0492370b249b11e8f07a51afac45037afee9d1"},
		{strings.Repeat("\x00", 64), "f5a5fd42d16a20302798ef6ed309979b43003d2320d9f0e8ea9831a92759fb4b"},
		{strings.Repeat("\xff", 64), "8667e718294e9e0df1d30600ba3eeb201f764aad2dad72748643e4a285e1d1f7"},
		{strings.Repeat("a", 55), "9f4390f8d30c2dd92ec9f095b65e2b9ae9b0a925a5258e241c9f1e910f734318"},
		{strings.Repeat("a", 56), "b35439a4ac6f0948b6d6f9e3c6af0f5f590ce20f1bde7090ef7970686ec6738a"},
		{strings.Repeat("a", 63), "7d3e74a05d7db15bce4ad9ec0658ea98e3f06eeecf16b4c6fff2da457ddc2f34"},
		{strings.Repeat("a", 64), "ffe054fe7ae0cb6dc65c3af9b61d5209f439851db43d0ba5997337df154668eb"},
		{strings.Repeat("a", 65), "635361c48bb9eab14198e76ea8ab7f1a41685d6ad62aa9146d301d4f17eb0ae0"},
		{strings.Repeat("a", 119), "31eba51c313a5c08226adf18d4a359cfdfd8d2e816b13f4af952f7ea6584dcfb"},
		{strings.Repeat("a", 120), "2f3d335432c70b580af0e8e1b3674a7c020d683aa5f73aaaedfdc55af904c21c"},
		{strings.Repeat("a", 128), "6836cf13bac400e9105071cd6af47084dfacad4e5e302c94bfed24e013afb73e"},
		{strings.Repeat("a", 1000000), "cdc76e5c9914fb9281a1c7e284d73e67f1809a48a497200e046d39ccc7112cd0"},
	} {
		if got := sha.ID([]byte(c.b)); hexed(got) != c.want {
			t.Errorf("ID of %d bytes %.70q: %s, want %s", len(c.b), c.b, hexed(got), c.want)
		}
	}
}

// 3.1: ID is what the standard says, of each byte, and of bytes of any size and kind.
func TestIDIsTheStandards(t *testing.T) {
	s := newStandard()
	check := func(b []byte) {
		t.Helper()
		if got, want := sha.ID(b), s.id(b); got != want {
			t.Errorf("ID(%x): %s, want %s", b, hexed(got), hexed(want))
		}
	}
	for i := range 256 {
		check([]byte{byte(i)})
	}
	for size := range 330 {
		check(sample(size))
		check(make([]byte, size))
		check(bytes.Repeat([]byte{255}, size))
	}
	for bit := range 512 {
		b := make([]byte, 64)
		b[bit/8] = 1 << (bit % 8)
		check(b)
	}
}

// 3.1: bytes that differ in one bit, or in how many of 0 or of the tail's own mark are at the end, have other IDs.
func TestOthersHaveOtherIDs(t *testing.T) {
	seen := map[string]string{}
	add := func(b []byte) {
		t.Helper()
		id := sha.ID(b)
		if was, ok := seen[id]; ok && was != string(b) {
			t.Errorf("%x and %x have the ID %s", was, b, hexed(id))
		}
		seen[id] = string(b)
	}
	for size := range 140 {
		add(make([]byte, size))
		add(append(make([]byte, size), 128))
		add(append(append([]byte("abc"), 128), make([]byte, size)...))
	}
	text := sample(130)
	for bit := range 8 * len(text) {
		b := bytes.Clone(text)
		b[bit/8] ^= 1 << (bit % 8)
		add(b)
	}
}

// 3.1: where the bits are more than 4 bytes can tell, how many they are is told in more.
func TestIDOfMany(t *testing.T) {
	if testing.Short() {
		t.Skip("half a gibibyte takes some seconds")
	}
	h := sha.Begin()
	part := make([]byte, 1<<20)
	for range 1 << 9 {
		h.Add(part)
	}
	if got := h.Size(); got != 1<<29 {
		t.Errorf("Size: %d", got)
	}
	if got := hexed(h.Sum()); got != "9acca8e8c22201155389f65abbf6bc9723edc7384ead80503839f49dcc56d767" {
		t.Errorf("Sum: %s", got)
	}
}

// 3.1: a hash that was begun is of no bytes, and stays so where none are added.
func TestBegin(t *testing.T) {
	s := newStandard()
	h := sha.Begin()
	if h == nil {
		t.Fatal("there is no hash")
	}
	checkHash(t, s, h, nil)
	h.Add(nil)
	checkHash(t, s, h, nil)
	h.Add([]byte{})
	checkHash(t, s, h, nil)
	if sha.ID(nil) != h.Sum() || sha.ID([]byte{}) != h.Sum() {
		t.Errorf("of no bytes: ID %s and %s, Sum %s", hexed(sha.ID(nil)), hexed(sha.ID([]byte{})), hexed(h.Sum()))
	}
}

// 3.1: an ID is a text of 32 bytes.
func TestIDsSize(t *testing.T) {
	for _, size := range edges {
		h := sha.Begin()
		h.Add(sample(size))
		if len(h.Sum()) != 32 || len(sha.ID(sample(size))) != 32 {
			t.Errorf("of %d bytes: %d and %d bytes", size, len(h.Sum()), len(sha.ID(sample(size))))
		}
	}
}

// 3.2: in two parts, wherever they are parted, and with parts of no bytes ahead, between and behind.
func TestTwoParts(t *testing.T) {
	s := newStandard()
	for _, size := range edges {
		b := sample(size)
		want := s.id(b)
		for i := range size + 1 {
			h := sha.Begin()
			for _, part := range [][]byte{nil, b[:i], {}, b[i:], nil} {
				h.Add(part)
			}
			if got := h.Sum(); got != want || h.Size() != size {
				t.Errorf("%x, parted at %d: %s and %d, want %s", b, i, hexed(got), h.Size(), hexed(want))
			}
		}
	}
}

// 3.2: in three parts, of which the second begins and ends within, at and behind a block's end.
func TestThreeParts(t *testing.T) {
	s := newStandard()
	b := sample(200)
	want := s.id(b)
	for i := range len(b) + 1 {
		for j := i; j <= len(b); j++ {
			h := sha.Begin()
			h.Add(b[:i])
			h.Add(b[i:j])
			h.Add(b[j:])
			if got := h.Sum(); got != want {
				t.Errorf("parted at %d and %d: %s, want %s", i, j, hexed(got), hexed(want))
			}
		}
	}
}

// 3.1, 3.2: in parts of any one size; behind each, Sum and Size are of what was added so far, and asking changes nothing.
func TestSumBehindEachPart(t *testing.T) {
	s := newStandard()
	b := sample(400)
	for _, wide := range []int{1, 2, 3, 7, 8, 9, 55, 56, 57, 63, 64, 65, 119, 120, 127, 128, 129, 200, 399} {
		h := sha.Begin()
		for i := 0; i < len(b); i += wide {
			end := min(i+wide, len(b))
			h.Add(b[i:end])
			checkHash(t, s, h, b[:end])
			checkHash(t, s, h, b[:end])
		}
		if got := h.Sum(); got != sha.ID(b) {
			t.Errorf("in parts of %d: %s, want %s", wide, hexed(got), hexed(sha.ID(b)))
		}
	}
}

// 3.1: a Sum that was answered stays what it was when more is added.
func TestSumStays(t *testing.T) {
	s := newStandard()
	for _, size := range edges {
		h := sha.Begin()
		b := sample(size)
		h.Add(b)
		first := h.Sum()
		h.Add([]byte("more"))
		if first != s.id(b) {
			t.Errorf("of %d bytes, when more is added: %s, want %s", size, hexed(first), hexed(s.id(b)))
		}
		checkHash(t, s, h, append(b, "more"...))
	}
}

// 3.1: a nil hash has no bytes and no ID, and Add does nothing to it.
func TestNil(t *testing.T) {
	var h *sha.Hash
	for _, b := range [][]byte{nil, {}, []byte("abc"), sample(64), sample(200)} {
		h.Add(b)
		if h != nil || h.Size() != 0 || h.Sum() != "" {
			t.Errorf("a nil hash, behind Add(%x): %d, %q", b, h.Size(), h.Sum())
		}
	}
}

// R4, LANGUAGE 7: what is handed in is not changed, the room behind it neither, and what becomes of it later is not seen.
func TestHandedIn(t *testing.T) {
	s := newStandard()
	for _, size := range edges {
		room := append(sample(size), "and some room behind it, as much as a block of 64 bytes has, and more"...)
		was := bytes.Clone(room)
		b := room[:size]
		h := sha.Begin()
		h.Add(b)
		id, sum := sha.ID(b), h.Sum()
		if !bytes.Equal(room, was) {
			t.Errorf("what was handed in has changed from %x to %x", was, room)
		}
		for i := range room {
			room[i]++
		}
		if want := s.id(was[:size]); id != want || sum != want {
			t.Errorf("an answer has changed with what was handed in: %s, %s, want %s", hexed(id), hexed(sum), hexed(want))
		}
		checkHash(t, s, h, was[:size])
		h.Add([]byte("more"))
		checkHash(t, s, h, append(was[:size:size], "more"...))
	}
}

// R5: hashes don't know of one another, and what was asked ahead is not kept.
func TestHashesStandAlone(t *testing.T) {
	s := newStandard()
	b, c := sample(300), sample(301)
	one, two := sha.Begin(), sha.Begin()
	for i := 0; i < 300; i += 30 {
		one.Add(b[i : i+30])
		if got, want := sha.ID([]byte("abc")), s.id([]byte("abc")); got != want {
			t.Errorf("ID of abc, %d bytes on: %s, want %s", i, hexed(got), hexed(want))
		}
		two.Add(c[i : i+20])
		two.Add(c[i+20 : i+30])
		checkHash(t, s, one, b[:i+30])
		checkHash(t, s, two, c[:i+30])
	}
	checkHash(t, s, sha.Begin(), nil)
}
