package sector_test

import (
	"bytes"
	"math"
	"math/rand"
	"slices"
	"testing"

	"chantry/api"
	"chantry/sector"
)

const most = 65536 // sectors of a text

// sizes are those of texts of a few sectors, with their edges.
var sizes = []int{1, 2, 47, 48, 49, 95, 96, 97, 143, 144, 145, 480, 481, 1000}

// parted answers the sectors of a text as the document says them, byte by byte, be they such as may be or not.
func parted(s api.Sector, text []byte) []api.Sector {
	var l []api.Sector
	for i, x := range text {
		if i%48 == 0 {
			l = append(l, api.Sector{Kind: s.Kind + min(i, 1), Epoch: s.Epoch, Number: s.Number + i/48, Left: (len(text) - 1 - i) / 48})
		}
		last := &l[len(l)-1]
		last.Data = append(last.Data, x)
	}
	return l
}

func sameList(a, b []api.Sector) bool {
	return slices.EqualFunc(a, b, same)
}

func split(t *testing.T, s api.Sector, text []byte) []api.Sector {
	t.Helper()
	l, e := sector.Split(s, text)
	if e != api.OK {
		t.Fatalf("Split(%+v, %d bytes): %d", s, len(text), e)
	}
	return l
}

// splitAndJoined fails unless a text has the sectors that the document says, and is joined of them again.
func splitAndJoined(t *testing.T, s api.Sector, text []byte) {
	t.Helper()
	l := split(t, s, text)
	if want := parted(s, text); !sameList(l, want) {
		t.Fatalf("Split(%+v, %d bytes): %+v, want %+v", s, len(text), l, want)
	}
	if len(l) != sector.Need(len(text)) {
		t.Fatalf("Split of %d bytes: %d sectors, but it needs %d", len(text), len(l), sector.Need(len(text)))
	}
	joined(t, l, text)
}

func joined(t *testing.T, l []api.Sector, want []byte) {
	t.Helper()
	if got, ok := sector.Join(l); !ok || !bytes.Equal(got, want) {
		t.Fatalf("Join of %d: %x, %t, want %x", len(l), got, ok, want)
	}
}

func notSplit(t *testing.T, s api.Sector, text []byte, want api.Errno) {
	t.Helper()
	if l, e := sector.Split(s, text); e != want || len(l) != 0 {
		t.Fatalf("Split(%+v, %d bytes): %d sectors, %d, want %d", s, len(text), len(l), e, want)
	}
}

func notJoined(t *testing.T, why string, l []api.Sector) {
	t.Helper()
	if text, ok := sector.Join(l); ok || len(text) != 0 {
		t.Fatalf("%s: Join(%+v): %x, %t", why, l, text, ok)
	}
}

// 7.2: how many sectors texts take.
func TestNeed(t *testing.T) {
	for _, c := range [][2]int{
		{0, 0}, {1, 1}, {47, 1}, {48, 1}, {49, 2}, {95, 2}, {96, 2}, {97, 3}, {144, 3}, {145, 4}, {most*48 - 1, most}, {most * 48, most}, {most*48 + 1, most + 1},
		{api.MaxNum, 44739243}, {math.MaxInt, math.MaxInt/48 + 1},
		{-1, 0}, {-2, 0}, {-47, 0}, {-48, 0}, {-49, 0}, {-97, 0}, {math.MinInt32, 0}, {math.MinInt + 1, 0}, {math.MinInt, 0},
	} {
		if got := sector.Need(c[0]); got != c[1] {
			t.Errorf("Need(%d): %d, want %d", c[0], got, c[1])
		}
	}
	taken := 0
	for size := range 2000 {
		if size > taken*48 {
			taken++
		}
		if got := sector.Need(size); got != taken {
			t.Fatalf("Need(%d): %d, want %d", size, got, taken)
		}
	}
}

// 7.2: the chapter's example: a text of 49 bytes, Kind 2.
func TestExample(t *testing.T) {
	l := split(t, api.Sector{Kind: 2, Epoch: 3, Number: 5}, filled(49, 1))
	want := []api.Sector{
		{Kind: 2, Epoch: 3, Number: 5, Left: 1, Data: filled(49, 1)[:48]},
		{Kind: 3, Epoch: 3, Number: 6, Left: 0, Data: filled(49, 1)[48:]},
	}
	if !sameList(l, want) {
		t.Errorf("%+v, want %+v", l, want)
	}
	joined(t, want, filled(49, 1))
}

// 7.2, 7.3: texts of all sizes, of Kinds, Epochs and Numbers with their edges, are split as the document says, and joined again.
func TestSplitAndJoin(t *testing.T) {
	for size := 1; size < 400; size++ {
		splitAndJoined(t, api.Sector{Kind: 1 + size%254, Epoch: size * 5, Number: size * 3}, filled(size, size))
	}
	for _, size := range sizes {
		count := (size + 47) / 48
		for _, kind := range kinds {
			if kind == 255 && count > 1 {
				continue
			}
			for _, epoch := range numbers {
				for _, number := range numbers {
					splitAndJoined(t, api.Sector{Kind: kind, Epoch: epoch, Number: min(number, api.MaxNum+1-count)}, filled(size, epoch%9))
				}
			}
		}
		splitAndJoined(t, api.Sector{Kind: 1}, make([]byte, size)) // zeros are bytes as others are
	}
}

// 7.2: Left and Data of s count for nothing, whatever they are.
func TestSplitOverlooks(t *testing.T) {
	text := filled(100, 4)
	plain := api.Sector{Kind: 7, Epoch: 8, Number: 9}
	want := split(t, plain, text)
	for _, left := range slices.Concat(lefts, noLefts) {
		for _, data := range [][]byte{nil, {}, {1}, filled(48, 2), filled(49, 3), filled(5000, 4)} {
			s := plain
			s.Left, s.Data = left, data
			if l := split(t, s, text); !sameList(l, want) {
				t.Fatalf("of Left %d, %d bytes of Data: %+v, want %+v", left, len(data), l, want)
			}
		}
	}
	for _, s := range []api.Sector{{Kind: 255, Left: 70000, Data: make([]byte, 49)}, {Kind: 1, Left: -1}} {
		splitAndJoined(t, s, text[:48])
	}
}

// 7.2: of an empty text there are no sectors, whatever s is.
func TestSplitOfNothing(t *testing.T) {
	for _, s := range []api.Sector{{Kind: 2}, {Kind: 2, Epoch: 1, Number: 1, Left: 1, Data: filled(5, 1)}, {}, {Kind: -1, Epoch: -1}} {
		notSplit(t, s, nil, api.ErrArg)
		notSplit(t, s, []byte{}, api.ErrArg)
	}
}

// 7.2: a text may take 65536 sectors, no more; that is asked ahead of what the sectors are.
func TestSplitOfMany(t *testing.T) {
	text := filled(most*48+1000, 1)
	for _, size := range []int{most * 48, most*48 - 1, most*48 - 47} {
		s := api.Sector{Kind: 254, Epoch: 1, Number: api.MaxNum + 1 - most}
		splitAndJoined(t, s, text[:size])
		l := split(t, s, text[:size])
		if first, last := l[0], l[most-1]; len(l) != most || first.Left != 65535 || last.Left != 0 || last.Number != api.MaxNum {
			t.Fatalf("of %d bytes: %d sectors, the first %+v, the last %+v", size, len(l), first, last)
		}
		s.Number++ // the last one's alone is too much
		notSplit(t, s, text[:size], api.ErrArg)
	}
	for _, size := range []int{most*48 + 1, most*48 + 48, most*48 + 49, len(text)} {
		for _, s := range []api.Sector{{Kind: 1}, {Kind: 254, Number: 5}, {}, {Kind: 255}, {Kind: 1, Epoch: -1}, {Kind: 1, Number: -1}, {Kind: 1, Number: api.MaxNum}} {
			notSplit(t, s, text[:size], api.ErrLong)
		}
	}
}

// 7.2: if one of the sectors may not be there are none: the first one, the second one alone, or the last one alone.
func TestSplitRefused(t *testing.T) {
	for _, size := range sizes {
		text, count := filled(size, 1), (size+47)/48
		for _, n := range noKinds {
			notSplit(t, api.Sector{Kind: n}, text, api.ErrArg)
		}
		for _, n := range outside {
			notSplit(t, api.Sector{Kind: 1, Epoch: n}, text, api.ErrArg)
			notSplit(t, api.Sector{Kind: 1, Number: n}, text, api.ErrArg)
		}
		splitAndJoined(t, api.Sector{Kind: 254}, text)
		if count > 1 {
			notSplit(t, api.Sector{Kind: 255}, text, api.ErrArg)
		} else {
			splitAndJoined(t, api.Sector{Kind: 255}, text)
		}
		splitAndJoined(t, api.Sector{Kind: 1, Number: api.MaxNum + 1 - count}, text)
		for less := range count {
			notSplit(t, api.Sector{Kind: 1, Number: api.MaxNum + 1 - less}, text, api.ErrArg)
		}
	}
}

// 7.2: no sectors are no text's.
func TestJoinOfNone(t *testing.T) {
	notJoined(t, "none", nil)
	notJoined(t, "none", []api.Sector{})
}

// 7.2: a text of one sector is joined of it, if it may be, has nothing left behind it, and has bytes.
func TestJoinOfOne(t *testing.T) {
	for _, kind := range kinds {
		for _, number := range numbers {
			for _, size := range []int{1, 2, 47, 48} {
				s := api.Sector{Kind: kind, Epoch: number, Number: api.MaxNum - number, Data: filled(size, kind)}
				joined(t, []api.Sector{s}, s.Data)
			}
		}
	}
	notJoined(t, "no bytes", []api.Sector{{Kind: 1}})
	notJoined(t, "no bytes", []api.Sector{{Kind: 1, Data: []byte{}}})
	notJoined(t, "too many bytes", []api.Sector{{Kind: 1, Data: filled(49, 1)}})
	notJoined(t, "a zero one", []api.Sector{{}})
	for _, left := range slices.Concat(lefts[1:], noLefts) {
		notJoined(t, "of a Left", []api.Sector{{Kind: 1, Left: left, Data: filled(48, 1)}})
	}
}

// 7.2: a text's sectors are joined as they are alone: not fewer of them (but for the last one, which is a text's too), nor more, nor in another order.
func TestJoinOfAnotherList(t *testing.T) {
	for count := 2; count <= 5; count++ {
		text := filled(48*count-5, count)
		l := split(t, api.Sector{Kind: 2, Epoch: 3, Number: 4}, text)
		joined(t, l, text)
		some := func(part []api.Sector) {
			t.Helper()
			switch {
			case len(part) == 1 && part[0].Left == 0: // it says no more than that it is a text of its own
				joined(t, part, part[0].Data)
			case len(part) < count:
				notJoined(t, "some lack", part)
			}
		}
		for i := range count {
			for j := i; j <= count; j++ {
				some(l[i:j])
				some(slices.Delete(slices.Clone(l), i, j))
			}
			for j := range count + 1 {
				notJoined(t, "one twice", slices.Insert(slices.Clone(l), j, l[i]))
			}
			for j := range i {
				other := slices.Clone(l)
				other[i], other[j] = other[j], other[i]
				notJoined(t, "two changed round", other)
			}
		}
		other := slices.Clone(l)
		slices.Reverse(other)
		notJoined(t, "the other way round", other)
		notJoined(t, "two texts", append(slices.Clone(l), l...))
		next := split(t, api.Sector{Kind: 2, Epoch: 3, Number: 4 + count}, text)
		notJoined(t, "two texts", append(slices.Clone(l), next...))
	}
	one := split(t, api.Sector{Kind: 2}, filled(48, 1))
	notJoined(t, "two texts of one", append(one, split(t, api.Sector{Kind: 3, Number: 1}, filled(5, 1))...))
}

// 7.2: if in one of a text's sectors one field alone is another one, they are no text's.
func TestJoinOfAnotherSector(t *testing.T) {
	for _, s := range []api.Sector{{Kind: 2, Epoch: 3, Number: 4}, {Kind: 254, Epoch: api.MaxNum, Number: api.MaxNum - 9}, {Kind: 1}} {
		for _, size := range []int{49, 96, 97, 144, 150} {
			whole := split(t, s, filled(size, 1))
			for i, was := range whole {
				others := []int{was.Kind - 1, was.Kind + 1, was.Epoch - 1, was.Epoch + 1, was.Number - 1, was.Number + 1, was.Left - 1, was.Left + 1, 0, 1, 2, 3, 255}
				for _, n := range slices.Concat(others, numbers, noKinds, noLefts) {
					for _, other := range [4]api.Sector{
						{Kind: n, Epoch: was.Epoch, Number: was.Number, Left: was.Left, Data: was.Data},
						{Kind: was.Kind, Epoch: n, Number: was.Number, Left: was.Left, Data: was.Data},
						{Kind: was.Kind, Epoch: was.Epoch, Number: n, Left: was.Left, Data: was.Data},
						{Kind: was.Kind, Epoch: was.Epoch, Number: was.Number, Left: n, Data: was.Data},
					} {
						if same(other, was) {
							continue
						}
						l := slices.Clone(whole)
						l[i] = other
						notJoined(t, "another field", l)
					}
				}
			}
		}
	}
}

// 7.2: all parts but the last one have 48 bytes, and the last one 1 to 48.
func TestJoinOfAnotherPart(t *testing.T) {
	for _, count := range []int{1, 2, 3, 4} {
		text := filled(48*count, 2)
		whole := split(t, api.Sector{Kind: 2}, text)
		for i := range whole {
			for size := range 100 {
				l := slices.Clone(whole)
				l[i].Data = filled(size, 3)
				if i == count-1 && size >= 1 && size <= 48 || size == 48 {
					joined(t, l, slices.Concat(text[:48*i], filled(size, 3), text[48*i+48:]))
				} else {
					notJoined(t, "another part", l)
				}
			}
		}
	}
}

// 7.2: sectors that go on as those of a text do, but may not be, are no text's.
func TestJoinOfWhatMayNotBe(t *testing.T) {
	for _, s := range []api.Sector{
		{Kind: 0}, {Kind: 255}, {Kind: 256}, {Kind: -1}, {Kind: 1, Epoch: -1}, {Kind: 1, Epoch: api.MaxNum + 1}, {Kind: 1, Number: -1}, {Kind: 1, Number: -2}, {Kind: 1, Number: api.MaxNum},
		{Kind: 1, Number: api.MaxNum - 1}, {Kind: math.MaxInt}, {Kind: 1, Number: math.MaxInt}, {Kind: math.MinInt}, {Kind: 1, Epoch: math.MinInt},
	} {
		notJoined(t, "as a text's", parted(s, filled(110, 1)))
	}
	l := parted(api.Sector{Kind: 1}, filled(48*most, 1))
	joined(t, l, filled(48*most, 1))
	notJoined(t, "one too many", parted(api.Sector{Kind: 1}, filled(48*most+1, 1)))
}

// 7.2: of any few sectors Join answers a text just where Split of it answers them.
func TestJoinOfAnySectors(t *testing.T) {
	r := rand.New(rand.NewSource(5))
	known := 0
	for range 200000 {
		var l []api.Sector
		var text []byte
		count := r.Intn(4)
		for i := range count {
			s := api.Sector{Kind: 1 + min(i, 1), Epoch: 6, Number: 7 + i, Left: count - 1 - i, Data: filled(48, i)}
			if i == count-1 {
				s.Data = s.Data[:r.Intn(49)]
			}
			switch r.Intn(24) {
			case 0:
				s.Kind = r.Intn(4)
			case 1:
				s.Epoch = 5 + r.Intn(3)
			case 2:
				s.Number = 6 + r.Intn(5)
			case 3:
				s.Left = r.Intn(4)
			case 4:
				s.Data = s.Data[:r.Intn(len(s.Data)+1)]
			}
			l = append(l, s)
			text = append(text, s.Data...)
		}
		var again []api.Sector
		if count > 0 {
			again, _ = sector.Split(l[0], text)
		}
		if len(again) == 0 || !sameList(again, l) {
			notJoined(t, "any", l)
			continue
		}
		known++
		joined(t, l, text)
	}
	if known < 50000 || known > 150000 {
		t.Fatalf("%d of them were texts", known)
	}
}

// 7.3: what is split, put, got and joined is what it was.
func TestThereAndBack(t *testing.T) {
	for size := 1; size < 1000; size += 7 {
		text := filled(size, size)
		var l []api.Sector
		for _, s := range split(t, api.Sector{Kind: api.KindLog, Epoch: size, Number: 1000 - size}, text) {
			got, e := sector.Get(put(t, s))
			if e != api.OK || !same(got, s) {
				t.Fatalf("%+v is got as %+v, %d", s, got, e)
			}
			l = append(l, got)
		}
		joined(t, l, text)
	}
}

// R4: what is handed in is not changed; what is handed out is new, and none of its parts can be written to by way of another one.
func TestTextsStandAlone(t *testing.T) {
	room := filled(400, 1)
	text, was := room[:100], bytes.Clone(room)
	s := api.Sector{Kind: 2, Left: 5, Data: []byte("abc")}
	l := split(t, s, text)
	if !bytes.Equal(room, was) || string(s.Data) != "abc" {
		t.Fatalf("Split has changed %x, %q", room, s.Data)
	}
	clear(text)
	joined(t, l, was[:100])
	copy(text, was)
	for i := range l {
		clear(l[i].Data)
		_ = append(l[i].Data, filled(200, 9)...)
	}
	if !bytes.Equal(room, was) {
		t.Fatalf("what was handed in has become %x", room)
	}
	joined(t, l, make([]byte, 100))

	l = split(t, s, text)
	want := split(t, s, text)
	got, ok := sector.Join(l)
	if !ok || !sameList(l, want) {
		t.Fatalf("Join has changed %+v", l)
	}
	clear(got)
	_ = append(got, filled(200, 9)...)
	if !sameList(l, want) {
		t.Fatalf("what was handed in has become %+v", l)
	}
	one := split(t, s, text[:48])
	got, _ = sector.Join(one)
	clear(one[0].Data)
	if !bytes.Equal(got, was[:48]) {
		t.Fatalf("what was joined has become %x", got)
	}
	clear(got)
	if joined(t, split(t, s, text[:48]), was[:48]); !bytes.Equal(room, was) {
		t.Fatalf("what was handed in has become %x", room)
	}
}
