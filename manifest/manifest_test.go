package manifest_test

import (
	"bytes"
	"encoding/hex"
	"math"
	"math/rand"
	"slices"
	"testing"

	"chantry/api"
	"chantry/crc"
	"chantry/manifest"
)

// outside are ints that are below all numbers of a part, or past them: near and far, and such as seem right in fewer bits.
var outside = []int{
	0, -1, -2, -9, -128, -65535, -65536, -1 << 18, -api.MaxNum, math.MinInt32, -1<<32 + 1, -1<<32 + 20, -1 << 32, math.MinInt + 1, math.MinInt + 20, math.MinInt,
	1 << 31, 1<<31 + 1, 1<<31 + 20, 1<<32 - 1, 1 << 32, 1<<32 + 1, 1<<32 + 20, 1 << 40, 1<<56 + 1, math.MaxInt - 1, math.MaxInt,
}

// Numbers that a part may have, with its edges and those of how many bytes they take, and numbers that it may not.
var (
	firsts = []int{1, 2, 9, 127, 128, 255, 256, 16383, 16384, 65534, 65535}
	sizes  = []int{1, 2, 127, 128, 300, 16383, 16384, 65536, 1<<18 - 1, 1 << 18}
	owners = []int{1, 2, 127, 128, 16383, 16384, 65536, 1<<21 - 1, 1 << 21, 1<<28 - 1, 1 << 28, api.MaxNum - 1, api.MaxNum}

	noFirsts = append([]int{65536, 65537, 65536 + 9, 1 << 17, 1 << 18, api.MaxNum}, outside...)
	noSizes  = append([]int{1<<18 + 1, 1<<18 + 2, 1 << 19, 1 << 21, api.MaxNum}, outside...)
	noOwners = outside
)

// segs answers n parts that may be, of Firsts from 10 on.
func segs(n int) []api.Part {
	var l []api.Part
	for i := range n {
		l = append(l, api.Part{First: 10 + i, Size: 300 + i*1000, Owner: 1 + i*i*i*i*i*i*i})
	}
	return l
}

// longest answers a manifest that may be of which none has more bytes.
func longest() api.Manifest {
	m := api.Manifest{Snap: api.Part{First: 65535, Size: api.MaxBytes, Owner: api.MaxNum}}
	for i := range 8 {
		m.Segs = append(m.Segs, api.Part{First: 65534 - i, Size: api.MaxBytes - i, Owner: api.MaxNum - i})
	}
	return m
}

// goods are manifests that may be: of each number of Segs, with and without a Snap, at the edges of all numbers.
func goods() []api.Manifest {
	l := []api.Manifest{{Segs: []api.Part{}}, longest()}
	for n := range 9 {
		l = append(l, api.Manifest{Segs: segs(n)}, api.Manifest{Segs: segs(n), Snap: api.Part{First: 5, Size: 7, Owner: 3}})
		falling := segs(n)
		slices.Reverse(falling)
		l = append(l, api.Manifest{Segs: falling, Snap: api.Part{First: 50, Size: 7, Owner: 3}})
	}
	for i, first := range firsts {
		for j, size := range sizes {
			for k, owner := range owners {
				p := api.Part{First: first, Size: size, Owner: owner}
				m := api.Manifest{Segs: segs((i + j + k) % 8), Snap: api.Part{First: 3, Size: 7, Owner: 3}}
				m.Segs = slices.DeleteFunc(m.Segs, func(q api.Part) bool { return q.First == first })
				l = append(l, api.Manifest{Segs: []api.Part{p}}, api.Manifest{Snap: p}, api.Manifest{Segs: m.Segs, Snap: p})
				m.Segs = slices.Insert(slices.Clone(m.Segs), k%(len(m.Segs)+1), p)
				l = append(l, m)
			}
		}
	}
	return l
}

// copied answers a manifest that is the same, and shares nothing with it.
func copied(m api.Manifest) api.Manifest {
	return api.Manifest{Segs: slices.Clone(m.Segs), Snap: m.Snap}
}

// equal is the tests' own measure of what is the same.
func equal(a, b api.Manifest) bool {
	if len(a.Segs) != len(b.Segs) || a.Snap != b.Snap {
		return false
	}
	for i := range a.Segs {
		if a.Segs[i] != b.Segs[i] {
			return false
		}
	}
	return true
}

// number answers a number's bytes, as chapter 1 says them, with so many groups more than are needed.
func number(n, more int) []byte {
	var b []byte
	for ; n > 127; n >>= 7 {
		b = append(b, byte(n)|128)
	}
	b = append(b, byte(n))
	for range more {
		b[len(b)-1] |= 128
		b = append(b, 0)
	}
	return b
}

// fields are a manifest's numbers, in the order in which they stand behind the text, as the document says.
func fields(m api.Manifest) []int {
	l := []int{len(m.Segs)}
	for _, p := range m.Segs {
		l = append(l, p.First, p.Size, p.Owner)
	}
	if m.Snap.First == 0 && m.Snap.Size == 0 && m.Snap.Owner == 0 {
		return append(l, 0)
	}
	return append(l, 1, m.Snap.First, m.Snap.Size, m.Snap.Owner)
}

// unsealed answers the bytes that the text and these numbers make.
func unsealed(l []int) []byte {
	b := []byte("\x03man")
	for _, n := range l {
		b = append(b, number(n, 0)...)
	}
	return b
}

func put(t *testing.T, m api.Manifest) []byte {
	t.Helper()
	b, e := manifest.Put(m)
	if e != api.OK {
		t.Fatalf("Put(%+v): %x, %d", m, b, e)
	}
	return b
}

// refused fails unless a manifest is neither checked nor put, and is left as it was.
func refused(t *testing.T, why string, m api.Manifest, want api.Errno) {
	t.Helper()
	was := copied(m)
	if e := manifest.Check(m); e != want {
		t.Fatalf("%s: Check(%+v): %d, want %d", why, m, e, want)
	}
	if b, e := manifest.Put(m); e != want || len(b) != 0 {
		t.Fatalf("%s: Put(%+v): %x, %d, want %d", why, m, b, e, want)
	}
	if !equal(m, was) {
		t.Fatalf("%s: of %+v has become %+v", why, was, m)
	}
}

// 12.1: the chapter's example and others, to the letter, and the sum behind them.
func TestPutToTheLetter(t *testing.T) {
	for _, c := range []struct {
		m    api.Manifest
		want string
	}{
		{api.Manifest{}, "036d616e" + "00" + "00"},
		{api.Manifest{Segs: []api.Part{}}, "036d616e" + "00" + "00"},
		{api.Manifest{Snap: api.Part{First: 4, Size: 1, Owner: 2}}, "036d616e" + "00" + "01" + "04" + "01" + "02"},
		{api.Manifest{Segs: []api.Part{{First: 9, Size: 300, Owner: 2}}}, "036d616e" + "01" + "09" + "ac02" + "02" + "00"},
		{api.Manifest{Segs: []api.Part{{First: 9, Size: 300, Owner: 2}, {First: 8, Size: 127, Owner: 128}}, Snap: api.Part{First: 4, Size: 1, Owner: 2}},
			"036d616e" + "02" + "09" + "ac02" + "02" + "08" + "7f" + "8001" + "01" + "04" + "01" + "02"},
		{api.Manifest{Segs: []api.Part{{First: 65535, Size: 1 << 18, Owner: api.MaxNum}}, Snap: api.Part{First: 65534, Size: 1<<18 - 1, Owner: api.MaxNum - 1}},
			"036d616e" + "01" + "ffff03" + "808010" + "ffffffff07" + "01" + "feff03" + "ffff0f" + "feffffff07"},
	} {
		want, _ := hex.DecodeString(c.want)
		sum := crc.Sum(want)
		want = append(want, byte(sum), byte(sum>>8), byte(sum>>16), byte(sum>>24))
		if b := put(t, c.m); !bytes.Equal(b, want) {
			t.Errorf("Put(%+v): %x, want %x", c.m, b, want)
		}
		if m, e := manifest.Get(want); e != api.OK || !equal(m, c.m) {
			t.Errorf("Get(%x): %+v, %d, want %+v", want, m, e, c.m)
		}
	}
}

// 12.1, 12.2: whatever may be is put as the document says, and got as the same, and has at most 109 bytes.
func TestPutAndGet(t *testing.T) {
	for _, m := range goods() {
		was := copied(m)
		if e := manifest.Check(m); e != api.OK {
			t.Fatalf("Check(%+v): %d", m, e)
		}
		b := put(t, m)
		if want := crc.Seal(unsealed(fields(m))); !bytes.Equal(b, want) || len(b) > 109 {
			t.Fatalf("Put(%+v): %x, want %x", m, b, want)
		}
		got, e := manifest.Get(b)
		if e != api.OK || !equal(got, m) || !manifest.Same(got, m) || !manifest.Same(m, got) {
			t.Fatalf("Get(%x): %+v, %d, want %+v", b, got, e, m)
		}
		if again := put(t, got); !bytes.Equal(again, b) {
			t.Fatalf("of %x, got and put again: %x", b, again)
		}
		if !equal(m, was) {
			t.Fatalf("of %+v has become %+v", was, m)
		}
	}
}

// 12.2: the longest manifest has just 109 bytes, which is less than a cell holds.
func TestLongest(t *testing.T) {
	b := put(t, longest())
	if len(b) != 109 || len(b) > api.PerCell {
		t.Fatalf("the longest manifest has %d bytes", len(b))
	}
	if m, e := manifest.Get(b); e != api.OK || !equal(m, longest()) {
		t.Fatalf("Get(%x): %+v, %d", b, m, e)
	}
}

// 12.1: more than 8 Segs are too many, whatever they are, and whatever Snap is.
func TestTooManySegs(t *testing.T) {
	for _, n := range []int{9, 10, 11, 16, 128, 256, 256 + 8, 65536, 65536 + 8} {
		zeros := make([]api.Part, n)
		right := segs(n)
		for i := range right { // of which none is past its edges
			right[i] = api.Part{First: i%65535 + 1, Size: 1, Owner: 1}
		}
		wrong := slices.Clone(right)
		wrong[n-1].Size = -1
		twice := slices.Clone(right)
		twice[1] = twice[0]
		for _, l := range [][]api.Part{zeros, right, wrong, twice} {
			for _, snap := range []api.Part{{}, {First: 65535, Size: 1, Owner: 1}, l[0], {First: 3}, {First: -1, Size: -1, Owner: -1}} {
				refused(t, "too many", api.Manifest{Segs: l, Snap: snap}, api.ErrMany)
			}
		}
	}
}

// bad answers parts that may not be, each for one number alone, or for several, made of one that may be.
func bad(p api.Part) []api.Part {
	l := []api.Part{{}, {Size: p.Size}, {Owner: p.Owner}, {First: -1, Size: -1, Owner: -1}, {First: 65536, Size: 1<<18 + 1, Owner: 1 << 31}}
	for _, n := range noFirsts {
		l = append(l, api.Part{First: n, Size: p.Size, Owner: p.Owner})
	}
	for _, n := range noSizes {
		l = append(l, api.Part{First: p.First, Size: n, Owner: p.Owner})
	}
	for _, n := range noOwners {
		l = append(l, api.Part{First: p.First, Size: p.Size, Owner: n})
	}
	return append(l, api.Part{First: p.First})
}

// 12.1: ErrArg of a part that may not be, at any place, with any number of others; of Snap too, but for the zero Part.
func TestPartRefused(t *testing.T) {
	for n := 1; n <= 8; n++ {
		for _, snap := range []api.Part{{}, {First: 5, Size: 7, Owner: 3}, {First: 65535, Size: 1 << 18, Owner: api.MaxNum}} {
			for i := range n {
				for _, p := range bad(segs(n)[i]) {
					m := api.Manifest{Segs: segs(n), Snap: snap}
					m.Segs[i] = p
					refused(t, "a Seg", m, api.ErrArg)
				}
			}
		}
	}
	for n := range 9 {
		for _, good := range []api.Part{{First: 5, Size: 7, Owner: 3}, {First: 1, Size: 1, Owner: 1}, {First: 65535, Size: 1 << 18, Owner: api.MaxNum}} {
			for _, p := range bad(good) {
				if p != (api.Part{}) {
					refused(t, "a Snap", api.Manifest{Segs: segs(n), Snap: p}, api.ErrArg)
				}
			}
		}
		refused(t, "zero Parts", api.Manifest{Segs: append(segs(n)[:n/2], api.Part{})}, api.ErrArg)
	}
}

// 12.1: ErrTwice of any two parts of one First, whatever else they differ in; but not of parts that share other numbers.
func TestTwice(t *testing.T) {
	for n := 1; n <= 8; n++ {
		for i := range n {
			for k := range n {
				m := api.Manifest{Segs: segs(n), Snap: api.Part{First: 5, Size: 7, Owner: 3}}
				m.Segs[i] = api.Part{First: m.Segs[k].First, Size: 99, Owner: 98}
				if i == k {
					if e := manifest.Check(m); e != api.OK {
						t.Fatalf("Check(%+v): %d", m, e)
					}
					continue
				}
				refused(t, "two Segs", m, api.ErrTwice)
				m.Segs[i] = m.Segs[k]
				refused(t, "two Segs that are the same", m, api.ErrTwice)
				m.Snap = api.Part{}
				refused(t, "two Segs, without a Snap", m, api.ErrTwice)
			}
			m := api.Manifest{Segs: segs(n), Snap: api.Part{First: segs(n)[i].First, Size: 99, Owner: 98}}
			refused(t, "a Seg and Snap", m, api.ErrTwice)
			m.Snap = m.Segs[i]
			refused(t, "a Seg and Snap that are the same", m, api.ErrTwice)
		}
		m := api.Manifest{Segs: segs(n), Snap: api.Part{First: 5, Size: 7, Owner: 3}}
		for i := range m.Segs {
			m.Segs[i].Size, m.Segs[i].Owner = 7, 3
		}
		if e := manifest.Check(m); e != api.OK {
			t.Fatalf("Check(%+v): %d", m, e)
		}
	}
}

// 12.1: where a part may not be, and others have one First, the answer is ErrArg, whichever of them stands ahead.
func TestArgAheadOfTwice(t *testing.T) {
	for n := 3; n <= 8; n++ {
		for i := range n {
			for _, two := range [][2]int{{0, 1}, {0, n - 1}, {n - 2, n - 1}} {
				m := api.Manifest{Segs: segs(n), Snap: api.Part{First: 5, Size: 7, Owner: 3}}
				m.Segs[two[1]].First = m.Segs[two[0]].First
				m.Segs[i].Size = 0
				refused(t, "a Seg", m, api.ErrArg)
				m.Segs[i] = api.Part{}
				refused(t, "a zero Part", m, api.ErrArg)
			}
		}
		m := api.Manifest{Segs: segs(n), Snap: api.Part{First: 10, Size: 7}}
		refused(t, "Snap, which has a Seg's First", m, api.ErrArg)
		m.Segs[1] = m.Segs[0]
		refused(t, "Snap, behind two Segs of one First", m, api.ErrArg)
		m.Snap.First, m.Segs[2].First = 0, 0
		refused(t, "two Firsts of 0", m, api.ErrArg)
	}
}

// others are manifests that differ from this one, in one number of one part, in one part's place, or in a part alone.
func others(m api.Manifest, r *rand.Rand) []api.Manifest {
	var l []api.Manifest
	with := func(change func(o *api.Manifest)) {
		o := copied(m)
		change(&o)
		if !equal(o, m) {
			l = append(l, o)
		}
	}
	for _, add := range []int{1, -1, 1 << 32, 1 << 16, 1 + r.Intn(1<<40)} {
		for i := range m.Segs {
			with(func(o *api.Manifest) { o.Segs[i].First += add })
			with(func(o *api.Manifest) { o.Segs[i].Size += add })
			with(func(o *api.Manifest) { o.Segs[i].Owner += add })
		}
		with(func(o *api.Manifest) { o.Snap.First += add })
		with(func(o *api.Manifest) { o.Snap.Size += add })
		with(func(o *api.Manifest) { o.Snap.Owner += add })
	}
	for i := range m.Segs {
		with(func(o *api.Manifest) { o.Segs = slices.Delete(o.Segs, i, i+1) })
		with(func(o *api.Manifest) { o.Segs[i] = api.Part{} })
		for k := range i {
			with(func(o *api.Manifest) { o.Segs[i], o.Segs[k] = o.Segs[k], o.Segs[i] })
		}
	}
	with(func(o *api.Manifest) { o.Segs = append(o.Segs, api.Part{}) })
	with(func(o *api.Manifest) { o.Segs = append(o.Segs, api.Part{First: 77, Size: 1, Owner: 1}) })
	if m.Snap != (api.Part{}) {
		with(func(o *api.Manifest) { o.Snap = api.Part{} })
		with(func(o *api.Manifest) { o.Segs, o.Snap = append(o.Segs, o.Snap), api.Part{} }) // the same Parts, otherwise told
	}
	return l
}

// 12.1: the same are manifests all of whose parts are the same, be they such as may be or not.
func TestSame(t *testing.T) {
	r := rand.New(rand.NewSource(12))
	any := []api.Manifest{
		{}, {Segs: make([]api.Part, 9)}, {Segs: segs(40)}, {Segs: []api.Part{{}, {First: -1}}, Snap: api.Part{Owner: math.MinInt}},
		{Snap: api.Part{First: 4, Size: 1, Owner: 2}}, longest(), {Segs: []api.Part{{First: 1}, {First: 1}}},
	}
	for n := range 9 {
		any = append(any, api.Manifest{Segs: segs(n), Snap: api.Part{First: 5, Size: 7, Owner: 3}}, api.Manifest{Segs: segs(n)})
	}
	for _, m := range any {
		if !manifest.Same(m, m) || !manifest.Same(m, copied(m)) || !manifest.Same(copied(m), m) {
			t.Fatalf("%+v is not the same as itself", m)
		}
		for _, o := range others(m, r) {
			was, other := copied(m), copied(o)
			if manifest.Same(m, o) || manifest.Same(o, m) {
				t.Fatalf("%+v and %+v are the same", m, o)
			}
			if !equal(m, was) || !equal(o, other) {
				t.Fatalf("Same has changed %+v to %+v, or %+v to %+v", was, m, other, o)
			}
		}
	}
	if !manifest.Same(api.Manifest{}, api.Manifest{Segs: []api.Part{}}) || !manifest.Same(api.Manifest{Segs: make([]api.Part, 0, 5)}, api.Manifest{}) {
		t.Fatal("an empty list is not the same as none")
	}
}

// 12.1: the parts are the Segs in order, and Snap behind them unless it is the zero Part, also of what may not be.
func TestParts(t *testing.T) {
	any := append(goods(), api.Manifest{Segs: make([]api.Part, 9)}, api.Manifest{Segs: segs(40), Snap: api.Part{Size: 1}},
		api.Manifest{Segs: []api.Part{{}, {First: -1}, {}}, Snap: api.Part{Owner: -1}}, api.Manifest{Segs: []api.Part{{}}},
		api.Manifest{Snap: api.Part{First: 3}}, api.Manifest{Segs: segs(2), Snap: segs(1)[0]})
	for _, m := range any {
		was := copied(m)
		var want []api.Part
		for _, p := range m.Segs {
			want = append(want, p)
		}
		if m.Snap.First != 0 || m.Snap.Size != 0 || m.Snap.Owner != 0 {
			want = append(want, m.Snap)
		}
		if l := manifest.Parts(m); !slices.Equal(l, want) {
			t.Fatalf("Parts(%+v): %+v, want %+v", m, l, want)
		}
		if !equal(m, was) {
			t.Fatalf("Parts has made %+v of %+v", m, was)
		}
	}
}

// R4: whoever writes to what was handed in, or out, does not change the other, nor the room behind it.
func TestListsStandAlone(t *testing.T) {
	room := append(make([]api.Part, 0, 20), segs(3)...)
	for _, snap := range []api.Part{{}, {First: 5, Size: 7, Owner: 3}} {
		m := api.Manifest{Segs: room, Snap: snap}
		want := copied(m)
		l := manifest.Parts(m)
		b := put(t, m)
		if e := manifest.Check(m); e != api.OK || !equal(m, want) || slices.ContainsFunc(room[3:20], func(p api.Part) bool { return p != api.Part{} }) {
			t.Fatalf("what was handed in has become %+v", room[:20])
		}
		clear(l)
		_ = append(l, segs(9)...)
		clear(b)
		if !equal(m, want) || slices.ContainsFunc(room[3:20], func(p api.Part) bool { return p != api.Part{} }) {
			t.Fatalf("what was handed in has become %+v", room[:20])
		}
		l, b = manifest.Parts(m), put(t, m)
		clear(room)
		if !slices.Equal(l, append(slices.Clone(want.Segs), l[3:]...)) || !bytes.Equal(b, crc.Seal(unsealed(fields(want)))) {
			t.Fatalf("what was handed out has become %+v, %x", l, b)
		}
		copy(room, want.Segs)
	}
}
