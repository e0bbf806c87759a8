package cell_test

import (
	"bytes"
	"math"
	"math/rand"
	"slices"
	"testing"

	"chantry/api"
	"chantry/cell"
)

// sizes are those of texts of a few cells, and of the most, with their edges.
var sizes = []int{1, 2, 241, 242, 243, 483, 484, 485, 726, 727, 2419, 2420, 2421, api.MaxBytes - 1, api.MaxBytes}

// blocks answers n places, all of which may be, in an order of no kind.
func blocks(n, seed int) []int {
	l := make([]int, n)
	for i := range l {
		l[i] = 1 + (i*40503+seed*7919)%65535
	}
	return l
}

func count(size int) int {
	n := 0
	for size > n*242 {
		n++
	}
	return n
}

// parted answers the cells of a text as the document says them, byte by byte, be they such as may be or not.
func parted(owner int, places []int, text []byte) []api.Cell {
	var l []api.Cell
	for i, x := range text {
		if i%242 == 0 {
			l = append(l, api.Cell{Owner: owner, Number: i / 242})
			if i > 0 {
				l[i/242-1].Next = places[i/242]
			}
		}
		last := &l[len(l)-1]
		last.Data = append(last.Data, x)
	}
	return l
}

func sameList(a, b []api.Cell) bool {
	return slices.EqualFunc(a, b, same)
}

func cut(t *testing.T, owner int, places []int, text []byte) []api.Cell {
	t.Helper()
	l, e := cell.Cut(owner, places, text)
	if e != api.OK {
		t.Fatalf("Cut(%d, %v, %d bytes): %d", owner, places, len(text), e)
	}
	return l
}

// cutAndJoined fails unless a text has the cells that the document says, and is joined of them again.
func cutAndJoined(t *testing.T, owner int, places []int, text []byte) {
	t.Helper()
	l := cut(t, owner, places, text)
	if want := parted(owner, places, text); !sameList(l, want) {
		t.Fatalf("Cut(%d, %v, %d bytes): %+v, want %+v", owner, places, len(text), l, want)
	}
	if len(l) != cell.Need(len(text)) {
		t.Fatalf("Cut of %d bytes: %d cells, but it needs %d", len(text), len(l), cell.Need(len(text)))
	}
	joined(t, l, text)
}

func joined(t *testing.T, l []api.Cell, want []byte) {
	t.Helper()
	if got, ok := cell.Join(l); !ok || !bytes.Equal(got, want) {
		t.Fatalf("Join of %d: %d bytes, %t, want %d", len(l), len(got), ok, len(want))
	}
}

func notCut(t *testing.T, why string, owner int, places []int, text []byte, want api.Errno) {
	t.Helper()
	if l, e := cell.Cut(owner, places, text); e != want || len(l) != 0 {
		t.Fatalf("%s: Cut(%d, %d places, %d bytes): %d cells, %d, want %d", why, owner, len(places), len(text), len(l), e, want)
	}
}

func notJoined(t *testing.T, why string, l []api.Cell) {
	t.Helper()
	if text, ok := cell.Join(l); ok || len(text) != 0 {
		t.Fatalf("%s: Join(%+v): %d bytes, %t", why, l, len(text), ok)
	}
}

// 9.2: how many cells texts take.
func TestNeed(t *testing.T) {
	for _, c := range [][2]int{
		{0, 0}, {1, 1}, {2, 1}, {241, 1}, {242, 1}, {243, 2}, {483, 2}, {484, 2}, {485, 3}, {726, 3}, {727, 4},
		{api.MaxBytes, 1084}, {api.MaxBytes + 1, 1084}, {1084 * 242, 1084}, {1084*242 + 1, 1085}, {api.MaxNum, 8873900}, {math.MaxInt, math.MaxInt/242 + 1},
		{-1, 0}, {-2, 0}, {-241, 0}, {-242, 0}, {-243, 0}, {-485, 0}, {math.MinInt32, 0}, {math.MinInt + 1, 0}, {math.MinInt, 0},
	} {
		if got := cell.Need(c[0]); got != c[1] {
			t.Errorf("Need(%d): %d, want %d", c[0], got, c[1])
		}
	}
	for size := range 5000 {
		if got, want := cell.Need(size), count(size); got != want {
			t.Fatalf("Need(%d): %d, want %d", size, got, want)
		}
	}
}

// 9.2: the chapter's example: 300 bytes, places 5, 9.
func TestExample(t *testing.T) {
	text := filled(300, 1)
	l := cut(t, 3, []int{5, 9}, text)
	want := []api.Cell{{Owner: 3, Number: 0, Next: 9, Data: text[:242]}, {Owner: 3, Number: 1, Next: 0, Data: text[242:]}}
	if !sameList(l, want) {
		t.Errorf("%+v, want %+v", l, want)
	}
	joined(t, want, text)
}

// 9.2, 9.3: texts of all sizes, of Owners and places with their edges, are cut as the document says, and joined again.
func TestCutAndJoin(t *testing.T) {
	for size := 1; size < 1000; size++ {
		cutAndJoined(t, 1+size*size, blocks(count(size), size), filled(size, size))
	}
	for _, size := range sizes {
		n := count(size)
		for _, owner := range owners {
			cutAndJoined(t, owner, blocks(n, owner%9), filled(size, 2))
		}
		for _, place := range []int{1, 2, 255, 256, 257, 1023, 1024, 32767, 32768, 65534, 65535} {
			cutAndJoined(t, 1, slices.Repeat([]int{place}, n), filled(size, 3)) // the same one everywhere is as good as others
			for _, i := range []int{0, n / 2, n - 1} {
				places := blocks(n, 1)
				places[i] = place
				cutAndJoined(t, 7, places, filled(size, 4))
			}
		}
		cutAndJoined(t, 1, blocks(n, 0), make([]byte, size)) // zeros are bytes as others are
	}
	cutAndJoined(t, 5, []int{4, 3, 4, 4}, filled(900, 1))
}

// 9.2: there is no text, or there are not as many places as it takes.
func TestCutOfAnotherNumberOfPlaces(t *testing.T) {
	for _, places := range [][]int{nil, {}, {5}, {0}, {5, 9}} {
		notCut(t, "no text", 3, places, nil, api.ErrArg)
		notCut(t, "no text", 3, places, []byte{}, api.ErrArg)
	}
	for _, size := range sizes {
		n, text := count(size), filled(size, 1)
		for _, other := range []int{0, 1, n - 2, n - 1, n + 1, n + 2, 2 * n, size} {
			if other != n && other >= 0 {
				notCut(t, "another number", 3, blocks(other, 1), text, api.ErrArg)
			}
		}
		notCut(t, "nil places", 3, nil, text, api.ErrArg)
	}
}

// 9.2: a place that no block may have, be it the first one, the last one, or any; and an Owner that no cell may have.
func TestCutRefused(t *testing.T) {
	for _, size := range sizes {
		n, text := count(size), filled(size, 1)
		for _, place := range append([]int{0}, noShorts...) {
			for _, i := range []int{0, n / 3, n / 2, n - 1} {
				places := blocks(n, 1)
				places[i] = place
				notCut(t, "no place", 3, places, text, api.ErrArg)
			}
			notCut(t, "no place at all", 3, slices.Repeat([]int{place}, n), text, api.ErrArg)
		}
		for _, owner := range noOwners {
			notCut(t, "no Owner", owner, blocks(n, 1), text, api.ErrArg)
		}
	}
	places := []int{1, 2, 3, 4, 5}
	for i := range places {
		wrong := slices.Clone(places)
		wrong[i] = 0
		notCut(t, "each in its turn", 3, wrong, filled(1200, 1), api.ErrArg)
	}
}

// 9.2: a text may have MaxBytes bytes, no more; that is asked ahead of all else.
func TestCutOfTooLong(t *testing.T) {
	text := filled(api.MaxBytes+5000, 1)
	cutAndJoined(t, 3, blocks(1084, 1), text[:api.MaxBytes])
	for _, size := range []int{api.MaxBytes + 1, api.MaxBytes + 2, 1084 * 242, 1084*242 + 1, len(text)} {
		for _, owner := range []int{1, 3, 0, -1, 1 << 31} {
			notCut(t, "too long", owner, blocks(count(size), 1), text[:size], api.ErrLong)
			notCut(t, "too long, places too few", owner, blocks(count(size)-1, 1), text[:size], api.ErrLong)
			notCut(t, "too long, no places", owner, nil, text[:size], api.ErrLong)
			notCut(t, "too long, wrong places", owner, make([]int, count(size)), text[:size], api.ErrLong)
		}
	}
}

// 9.2: no cells are no text's.
func TestJoinOfNone(t *testing.T) {
	notJoined(t, "none", nil)
	notJoined(t, "none", []api.Cell{})
}

// 9.2: a text of one cell is joined of it, if it may be, is the first one and the last one.
func TestJoinOfOne(t *testing.T) {
	for _, owner := range owners {
		for _, size := range []int{1, 2, 241, 242} {
			c := api.Cell{Owner: owner, Data: filled(size, 3)}
			joined(t, []api.Cell{c}, c.Data)
			for _, n := range slices.Concat(shorts[1:], noShorts) {
				next, number := c, c
				next.Next = n
				number.Number = n
				notJoined(t, "a Next", []api.Cell{next})
				notJoined(t, "a Number", []api.Cell{number})
			}
		}
	}
	notJoined(t, "no bytes", []api.Cell{{Owner: 1}})
	notJoined(t, "no bytes", []api.Cell{{Owner: 1, Data: []byte{}}})
	notJoined(t, "too many bytes", []api.Cell{{Owner: 1, Data: filled(243, 1)}})
	notJoined(t, "a zero one", []api.Cell{{}})
	for _, owner := range noOwners {
		notJoined(t, "no Owner", []api.Cell{{Owner: owner, Data: filled(5, 1)}})
	}
}

// 9.2: a text's cells are joined as they are alone: not fewer of them, nor more, nor in another order.
func TestJoinOfAnotherList(t *testing.T) {
	for n := 2; n <= 5; n++ {
		text := filled(242*n-5, n)
		l := cut(t, 2, blocks(n, n), text)
		joined(t, l, text)
		for i := range n {
			for j := i; j <= n; j++ {
				if j-i < n {
					notJoined(t, "some alone", l[i:j])
				}
				if i < j {
					notJoined(t, "some lack", slices.Delete(slices.Clone(l), i, j))
				}
			}
			for j := range n + 1 {
				notJoined(t, "one twice", slices.Insert(slices.Clone(l), j, l[i]))
			}
			for j := range i {
				other := slices.Clone(l)
				other[i], other[j] = other[j], other[i]
				notJoined(t, "two changed round", other)
			}
		}
		other := slices.Clone(l)
		slices.Reverse(other)
		notJoined(t, "the other way round", other)
		notJoined(t, "two texts", append(slices.Clone(l), l...))

		whole := cut(t, 2, blocks(n, n), filled(242*n, n)) // of which all parts are as great
		for i := range n {
			for j := range n {
				other := slices.Clone(whole)
				other[i].Number = j
				if i != j {
					notJoined(t, "another Number", other)
				}
			}
			other := slices.Clone(whole)
			for k := range other {
				other[k].Number += i
			}
			if i > 0 {
				notJoined(t, "Numbers from another one on", other)
			}
		}
	}
}

// 9.2: if in one of a text's cells a field alone is another one that counts, they are no text's.
func TestJoinOfAnotherCell(t *testing.T) {
	for _, owner := range []int{1, 2, 1000, api.MaxNum} {
		for _, size := range []int{243, 484, 485, 726, 800} {
			text := filled(size, 1)
			whole := cut(t, owner, blocks(count(size), 1), text)
			for i, was := range whole {
				for _, n := range slices.Concat([]int{owner - 1, owner + 1}, owners, noOwners) {
					l := slices.Clone(whole)
					l[i].Owner = n
					if n != owner {
						notJoined(t, "another Owner", l)
					}
				}
				for _, n := range slices.Concat([]int{was.Number - 1, was.Number + 1, 0, 1, 2, 3, 4}, shorts, noShorts) {
					l := slices.Clone(whole)
					l[i].Number = n
					if n != was.Number {
						notJoined(t, "another Number", l)
					}
				}
			}
		}
	}
}

// 9.2: whatever the Nexts are that may be, they are joined, if the last one's alone is 0.
func TestJoinOfAnyNexts(t *testing.T) {
	for n := 1; n <= 5; n++ {
		text := filled(242*n-1, n)
		whole := cut(t, 2, blocks(n, n), text)
		for i := range whole {
			for _, next := range slices.Concat(shorts, noShorts) {
				l := slices.Clone(whole)
				l[i].Next = next
				if next >= 1 && next <= 65535 && i < n-1 || next == 0 && i == n-1 {
					joined(t, l, text)
				} else {
					notJoined(t, "another Next", l)
				}
			}
		}
		for _, next := range shorts[1:] {
			l := slices.Clone(whole)
			for i := range n - 1 {
				l[i].Next = next
			}
			joined(t, l, text)
			l[n-1].Next = next
			notJoined(t, "none is 0", l)
		}
		l := slices.Clone(whole)
		for i := range l {
			l[i].Next = 0
		}
		if n > 1 {
			notJoined(t, "all are 0", l)
		}
	}
}

// 9.2: all parts but the last one have 242 bytes, and the last one 1 to 242.
func TestJoinOfAnotherPart(t *testing.T) {
	for n := 1; n <= 4; n++ {
		text := filled(242*n, 2)
		whole := cut(t, 2, blocks(n, n), text)
		for i := range whole {
			for size := range 500 {
				l := slices.Clone(whole)
				l[i].Data = filled(size, 3)
				if i == n-1 && size >= 1 && size <= 242 || size == 242 {
					joined(t, l, slices.Concat(text[:242*i], filled(size, 3), text[242*i+242:]))
				} else {
					notJoined(t, "another part", l)
				}
			}
		}
	}
}

// 9.2: cells that go on as those of a text do, but may not be, are no text's.
func TestJoinOfWhatMayNotBe(t *testing.T) {
	for _, owner := range noOwners {
		notJoined(t, "no Owner", parted(owner, blocks(3, 1), filled(500, 1)))
	}
	for _, place := range append([]int{0}, noShorts...) {
		notJoined(t, "no Next", parted(1, slices.Repeat([]int{place}, 3), filled(500, 1)))
	}
	text := filled(65536*242+1, 1) // as many Numbers as there are
	l := parted(1, blocks(65537, 1), text)
	notJoined(t, "one too many", l)
	l[65535].Next = 0
	joined(t, l[:65536], text[:65536*242])
}

// 9.2: of any few cells Join answers a text just where Cut of it, by places that go on as their Nexts do, answers them.
func TestJoinOfAnyCells(t *testing.T) {
	r := rand.New(rand.NewSource(92))
	known := 0
	for range 100000 {
		var l []api.Cell
		var text []byte
		places := []int{1}
		n := r.Intn(4)
		for i := range n {
			c := api.Cell{Owner: 6, Number: i, Next: r.Intn(65536), Data: filled(242, i)}
			if i == n-1 {
				c.Next, c.Data = 0, c.Data[:r.Intn(243)]
			}
			switch r.Intn(24) {
			case 0:
				c.Owner = 5 + r.Intn(3)
			case 1:
				c.Number = r.Intn(5)
			case 2:
				c.Next = r.Intn(3)
			case 3:
				c.Data = c.Data[:r.Intn(len(c.Data)+1)]
			case 4:
				c.Data = filled(243, i)
			}
			l = append(l, c)
			text = append(text, c.Data...)
			places = append(places, c.Next)
		}
		var again []api.Cell
		if n > 0 {
			again, _ = cell.Cut(l[0].Owner, places[:n], text)
		}
		if len(again) == 0 || !sameList(again, l) {
			notJoined(t, "any", l)
			continue
		}
		known++
		joined(t, l, text)
	}
	if known < 30000 || known > 75000 {
		t.Fatalf("%d of them were texts", known)
	}
}

// 9.3: what is cut, put, got and joined is what it was.
func TestThereAndBack(t *testing.T) {
	for _, size := range append(sizes, 1000, 5000, 100000) {
		text := filled(size, size)
		var l []api.Cell
		for _, c := range cut(t, size, blocks(count(size), size), text) {
			got, e := cell.Get(put(t, c))
			if e != api.OK || !same(got, c) {
				t.Fatalf("%+v is got as %+v, %d", c, got, e)
			}
			l = append(l, got)
		}
		joined(t, l, text)
	}
}

// R4: what is handed in is not changed; what is handed out is new, and none of its parts can be written to by way of another one.
func TestTextsStandAlone(t *testing.T) {
	room, spots := filled(1000, 1), blocks(10, 1)
	text, was, places := room[:500], bytes.Clone(room), spots[:3]
	l := cut(t, 2, places, text)
	if !bytes.Equal(room, was) || !slices.Equal(spots, blocks(10, 1)) {
		t.Fatalf("Cut has changed %x, %v", room, spots)
	}
	want := parted(2, places, text)
	clear(text)
	clear(places)
	if !sameList(l, want) {
		t.Fatalf("what was cut has become %+v", l)
	}
	copy(text, was)
	copy(places, blocks(3, 1))
	for i := range l {
		clear(l[i].Data)
		_ = append(l[i].Data, filled(500, 9)...)
	}
	if !bytes.Equal(room, was) {
		t.Fatalf("what was handed in has become %x", room)
	}
	joined(t, l, make([]byte, 500))

	l = cut(t, 2, places, text)
	got, ok := cell.Join(l)
	if !ok || !sameList(l, want) {
		t.Fatalf("Join has changed %+v", l)
	}
	clear(got)
	_ = append(got, filled(500, 9)...)
	if !sameList(l, want) {
		t.Fatalf("what was handed in has become %+v", l)
	}
	one := cut(t, 2, places[:1], text[:242])
	one[0].Data = append(make([]byte, 0, 500), one[0].Data...)
	got, _ = cell.Join(one)
	clear(one[0].Data)
	if !bytes.Equal(got, was[:242]) {
		t.Fatalf("what was joined has become %x", got)
	}
	clear(got)
	if !bytes.Equal(room, was) {
		t.Fatalf("what was handed in has become %x", room)
	}
}

// R4: what is refused is not changed either.
func TestRefusedIsAsItWas(t *testing.T) {
	text, places := filled(300, 1), []int{5, 70000, 9}
	notCut(t, "places", 3, places, text, api.ErrArg)
	notCut(t, "a place", 3, places[:2], text, api.ErrArg)
	notCut(t, "an Owner", 0, []int{5, 9}, text, api.ErrArg)
	if !bytes.Equal(text, filled(300, 1)) || !slices.Equal(places, []int{5, 70000, 9}) {
		t.Fatalf("they have become %x, %v", text, places)
	}
	l := cut(t, 3, []int{5, 9}, text)
	l[0], l[1] = l[1], l[0]
	was := slices.Clone(l)
	notJoined(t, "changed round", l)
	if !sameList(l, was) {
		t.Fatalf("they have become %+v", l)
	}
}
