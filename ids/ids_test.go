package ids_test

import (
	"slices"
	"strings"
	"testing"

	"chantry/api"
	"chantry/ids"
	"chantry/sha"
)

// of answers an ID of bytes that are all the same.
func of(c byte) string {
	return strings.Repeat(string([]byte{c}), 32)
}

// with answers an ID whose byte at that place is c, and the others 100.
func with(place int, c byte) string {
	b := []byte(of(100))
	b[place] = c
	return string(b)
}

// wrong are texts that are no IDs.
func wrong() []string {
	return []string{
		"", "\x00", "x", "abc", of(7)[:31], of(7) + "\x07", of(0)[:31], of(0) + "\x00", of(255)[:31], of(255) + "\xff",
		of(7) + of(7), strings.Repeat("\x07", 63), strings.Repeat("0a", 32), strings.Repeat("é", 32), strings.Repeat("a", 1000),
	}
}

// notUTF8 are IDs that are no text in UTF-8, or one of other than 32 runes.
func notUTF8() []string {
	return []string{
		of(128), of(255), of(192), with(31, 195), with(0, 169), strings.Repeat("é", 16), strings.Repeat("\xa9\xc3", 16),
		strings.Repeat("😀", 8), strings.Repeat("\xed\xa0\x80\x00", 8), strings.Repeat("\xef\xbf\xbd\xfe", 8),
	}
}

// greater answers whether a stands behind b by its bytes.
func greater(a, b string) bool {
	for i := 0; i < len(a) && i < len(b); i++ {
		if a[i] != b[i] {
			return int(a[i]) > int(b[i])
		}
	}
	return len(a) > len(b)
}

// chosen answers those of l that have 32 bytes and are wanted, rising, each once: each is put at its place, one by one.
func chosen(l []string, wanted func(id string) bool) []string {
	var out []string
	for _, id := range l {
		i := 0
		for i < len(out) && greater(id, out[i]) {
			i++
		}
		if len(id) == 32 && wanted(id) && (i == len(out) || out[i] != id) {
			out = slices.Insert(out, i, id)
		}
	}
	return out
}

func in(l []string, id string) bool {
	for _, x := range l {
		if x == id {
			return true
		}
	}
	return false
}

func shown(l []string) string {
	var b strings.Builder
	for _, id := range l {
		for i := range len(id) {
			b.WriteByte("0123456789abcdef"[id[i]/16])
			b.WriteByte("0123456789abcdef"[id[i]%16])
		}
		b.WriteByte(' ')
	}
	return b.String()
}

func checkList(t *testing.T, what string, got, want []string) {
	t.Helper()
	if !slices.Equal(got, want) {
		t.Errorf("%s: %s, want %s", what, shown(got), shown(want))
	}
}

// checkOne holds all that is told of one list against what the chapter says of it.
func checkOne(t *testing.T, l []string) {
	t.Helper()
	all := chosen(l, func(string) bool { return true })
	checkList(t, "Of "+shown(l), ids.Of(l), all)
	rises := slices.Equal(l, all)
	if ids.Rising(l) != rises {
		t.Errorf("Rising(%s): %t", shown(l), !rises)
	}
	tag, e := ids.Tag(l)
	want, wantE := "", api.ErrForm
	if rises {
		want, wantE = sha.ID([]byte(strings.Join(l, ""))), api.OK
	}
	if tag != want || e != wantE {
		t.Errorf("Tag(%s): %x and %d, want %x and %d", shown(l), tag, e, want, wantE)
	}
}

// checkTwo holds what is told of two lists against what the chapter says of them, and against what follows.
func checkTwo(t *testing.T, a, b []string) {
	t.Helper()
	what := shown(a) + "and " + shown(b)
	union, meet, less := ids.Union(a, b), ids.Meet(a, b), ids.Less(a, b)
	checkList(t, "Union of "+what, union, chosen(slices.Concat(a, b), func(string) bool { return true }))
	checkList(t, "Meet of "+what, meet, chosen(a, func(id string) bool { return in(b, id) }))
	checkList(t, "Less of "+what, less, chosen(a, func(id string) bool { return !in(b, id) }))
	checkList(t, "Union the other way round of "+what, ids.Union(b, a), union)
	checkList(t, "Meet the other way round of "+what, ids.Meet(b, a), meet)
	checkList(t, "Less with Meet of "+what, ids.Union(less, meet), ids.Of(a))
	checkList(t, "Less meeting Meet of "+what, ids.Meet(less, meet), nil)
}

// lists are lists of all kinds: of none, of one, rising, falling, with one ID more than once, with wrong texts.
func lists() [][]string {
	a, b, c, d := of(1), of(2), of(10), of(200)
	l := [][]string{
		nil, {}, {a}, {d}, {of(0)}, {of(255)}, {a, b}, {b, a}, {a, a}, {a, b, c}, {c, b, a}, {a, c, b}, {b, a, c}, {c, d}, {d, c},
		{a, b, b, c}, {a, a, b, c}, {a, b, c, c}, {a, b, a}, {b, b, b}, {a, b, c, d}, {d, c, b, a}, {of(127), of(128)}, {of(128), of(127)},
		{of(0), of(255)}, {of(255), of(0)}, {with(31, 0), with(31, 255)}, {with(0, 0), with(0, 255)},
	}
	for _, x := range wrong() {
		l = append(l, []string{x}, []string{x, a}, []string{a, x}, []string{a, x, b}, []string{x, x}, []string{c, x, a, x, c})
	}
	return append(l, wrong(), notUTF8())
}

// 4.1: an ID has 32 bytes, whichever they are; each other size is wrong.
func TestRight(t *testing.T) {
	for size := range 130 {
		for _, c := range []byte{0, 'a', 127, 128, 255} {
			id := strings.Repeat(string([]byte{c}), size)
			if ids.Right(id) != (size == 32) {
				t.Errorf("Right of %d bytes %d: %t", size, c, ids.Right(id))
			}
		}
	}
	for c := range 256 {
		if !ids.Right(of(byte(c))) {
			t.Errorf("32 bytes %d are not right", c)
		}
	}
	for _, id := range notUTF8() {
		if !ids.Right(id) {
			t.Errorf("%x is not right", id)
		}
	}
	for _, id := range wrong() {
		if ids.Right(id) {
			t.Errorf("%x is right", id)
		}
	}
}

// 4.1: a list of none rises, and one of a right one; not one that falls, has one twice, or has a wrong one, wherever it is.
func TestRising(t *testing.T) {
	a, b, c := of(1), of(2), of(10)
	for _, l := range [][]string{nil, {}, {a}, {of(0)}, {of(255)}, {a, b}, {a, b, c}, {of(0), of(255)}, {with(31, 4), with(31, 5)}} {
		if !ids.Rising(l) {
			t.Errorf("does not rise: %s", shown(l))
		}
	}
	for _, l := range [][]string{{b, a}, {a, a}, {a, b, b}, {a, a, b}, {a, c, b}, {b, a, c}, {c, b, a}, {with(31, 5), with(31, 4)}, {with(1, 4), with(0, 5)}} {
		if ids.Rising(l) {
			t.Errorf("rises: %s", shown(l))
		}
	}
	for _, x := range wrong() {
		for _, l := range [][]string{{x}, {x, c}, {a, x}, {a, x, c}, {of(0), x, of(255)}, {a, b, x}, {x, b, c}} {
			if ids.Rising(l) {
				t.Errorf("rises with %x: %s", x, shown(l))
			}
		}
	}
}

// 4.1: greater is greater by bytes from 0 to 255, at each place, and the first that differs tells.
func TestGreaterByBytes(t *testing.T) {
	var l []string
	for c := range 256 {
		l = append(l, of(byte(c)))
	}
	checkOne(t, l)
	for place := range 32 {
		for c := range 255 {
			low, high := with(place, byte(c)), with(place, byte(c+1))
			if !ids.Rising([]string{low, high}) || ids.Rising([]string{high, low}) {
				t.Errorf("at place %d, %d and %d", place, c, c+1)
			}
			checkList(t, "Of two", ids.Of([]string{high, low}), []string{low, high})
			checkList(t, "Union of two", ids.Union([]string{high}, []string{low}), []string{low, high})
		}
	}
	for place := range 31 {
		low, high := []byte(with(place, 3)), []byte(with(place, 4))
		for i := place + 1; i < 32; i++ {
			low[i], high[i] = 255, 0
		}
		checkList(t, "Of two", ids.Of([]string{string(high), string(low)}), []string{string(low), string(high)})
	}
}

// 4.1: the right ones, rising, each once.
func TestOf(t *testing.T) {
	a, b, c := of(1), of(2), of(10)
	for _, x := range []struct{ l, want []string }{
		{nil, nil},
		{[]string{}, nil},
		{[]string{a}, []string{a}},
		{[]string{a, b, c}, []string{a, b, c}},
		{[]string{c, b, a}, []string{a, b, c}},
		{[]string{b, "x", a, b}, []string{a, b}},
		{[]string{b, b, b}, []string{b}},
		{[]string{"", a[:31], a + "\x01"}, nil},
		{[]string{c, a[:31], a, c[:31], a, "", c + "\x0a", b}, []string{a, b, c}},
		{[]string{of(255), of(128), of(127), of(0)}, []string{of(0), of(127), of(128), of(255)}},
	} {
		checkList(t, "Of "+shown(x.l), ids.Of(x.l), x.want)
	}
}

// 4.1: Has tells whether it is one of the list, wherever, of a list that need not rise.
func TestHas(t *testing.T) {
	a, b, c := of(1), of(2), of(10)
	for _, l := range [][]string{{a, b, c}, {c, b, a}, {b, c, a}, {c, a, b}, {a, "", b, b[:31], c}, {c, c, b, a, a}} {
		for _, id := range []string{a, b, c} {
			if !ids.Has(l, id) {
				t.Errorf("%x is not one of %s", id, shown(l))
			}
		}
		for _, id := range []string{of(0), of(3), of(11), of(255), a[:31], a + "\x01", b + "\x00", with(0, 1)} {
			if ids.Has(l, id) {
				t.Errorf("%x is one of %s", id, shown(l))
			}
		}
	}
	for _, id := range append(wrong(), a) {
		if ids.Has(nil, id) || ids.Has([]string{}, id) || ids.Has([]string{b}, id) {
			t.Errorf("%x is one of none, or of another one", id)
		}
		if !ids.Has([]string{id}, id) || !ids.Has([]string{b, id, c}, id) {
			t.Errorf("%x is not one of those that it is among", id)
		}
	}
}

// 4.1: a long list, rising and falling: each of it is one of it, and none that lies between.
func TestHasOfMany(t *testing.T) {
	var rising []string
	for c := 1; c < 256; c += 2 {
		rising = append(rising, of(byte(c)))
	}
	falling := slices.Clone(rising)
	slices.Reverse(falling)
	for c := range 256 {
		id := of(byte(c))
		if ids.Has(rising, id) != (c%2 == 1) || ids.Has(falling, id) != (c%2 == 1) {
			t.Errorf("Has of 32 bytes %d: %t and %t", c, ids.Has(rising, id), ids.Has(falling, id))
		}
	}
}

// 4.1: two lists that are the same, that have nothing in common, of which one is within the other, that overlap; of none, of wrong ones.
func TestTwoLists(t *testing.T) {
	a, b, c, d := of(1), of(2), of(10), of(200)
	x, y, z := a[:31], c+"\x0a", ""
	for _, p := range []struct{ a, b, union, meet, less []string }{
		{nil, nil, nil, nil, nil},
		{[]string{}, nil, nil, nil, nil},
		{[]string{a}, nil, []string{a}, nil, []string{a}},
		{nil, []string{a}, []string{a}, nil, nil},
		{[]string{a}, []string{a}, []string{a}, []string{a}, nil},
		{[]string{a}, []string{b}, []string{a, b}, nil, []string{a}},
		{[]string{b}, []string{a}, []string{a, b}, nil, []string{b}},
		{[]string{a, b, c}, []string{a, b, c}, []string{a, b, c}, []string{a, b, c}, nil},
		{[]string{a, b, c}, []string{c, b, a}, []string{a, b, c}, []string{a, b, c}, nil},
		{[]string{a, c}, []string{b, d}, []string{a, b, c, d}, nil, []string{a, c}},
		{[]string{c, d}, []string{a, b}, []string{a, b, c, d}, nil, []string{c, d}},
		{[]string{a, b, c, d}, []string{b, c}, []string{a, b, c, d}, []string{b, c}, []string{a, d}},
		{[]string{b, c}, []string{a, b, c, d}, []string{a, b, c, d}, []string{b, c}, nil},
		{[]string{a, b, c}, []string{b, c, d}, []string{a, b, c, d}, []string{b, c}, []string{a}},
		{[]string{d, b, b, a}, []string{c, b, c}, []string{a, b, c, d}, []string{b}, []string{a, d}},
		{[]string{x, y, z}, []string{x, y, z}, nil, nil, nil},
		{[]string{x, b, y, z}, []string{z, a, b, y}, []string{a, b}, []string{b}, nil},
		{[]string{x, b, y, z}, nil, []string{b}, nil, []string{b}},
		{nil, []string{x, b, y, z}, []string{b}, nil, nil},
	} {
		what := shown(p.a) + "and " + shown(p.b)
		checkList(t, "Union of "+what, ids.Union(p.a, p.b), p.union)
		checkList(t, "Meet of "+what, ids.Meet(p.a, p.b), p.meet)
		checkList(t, "Less of "+what, ids.Less(p.a, p.b), p.less)
	}
}

// 4.1, 4.3: all lists of all kinds, and any two of them.
func TestAllLists(t *testing.T) {
	all := lists()
	for _, a := range all {
		checkOne(t, a)
		for _, b := range all {
			checkTwo(t, a, b)
		}
	}
}

// 4.1, 4.3: any two lists of up to three out of three IDs and a wrong text, in any order.
func TestAllShortLists(t *testing.T) {
	from := []string{of(255), of(0), of(128), of(128)[:31]}
	all := [][]string{nil}
	for i := 0; len(all[i]) < 3; i++ {
		for _, id := range from {
			all = append(all, append(slices.Clone(all[i]), id))
		}
	}
	for _, a := range all {
		checkOne(t, a)
		for _, b := range all {
			checkTwo(t, a, b)
		}
	}
}

// 4.1: lists of many are gone through in about as many steps.
func TestMany(t *testing.T) {
	const many = 1 << 16
	var a, b, both []string
	for i := range many {
		id := of(9)[:29] + string([]byte{byte(i >> 16), byte(i >> 8), byte(i)})
		if i%2 == 0 {
			a = append(a, id)
		}
		if i%3 == 0 {
			b = append(b, id)
		}
		if i%6 == 0 {
			both = append(both, id)
		}
	}
	backwards := slices.Clone(b)
	slices.Reverse(backwards)
	if !slices.Equal(ids.Meet(a, backwards), both) {
		t.Error("Meet of many is wrong")
	}
	if got := ids.Union(a, backwards); len(got) != len(a)+len(b)-len(both) || !ids.Rising(got) {
		t.Errorf("Union of many has %d", len(got))
	}
	if got := ids.Less(a, backwards); len(got) != len(a)-len(both) || len(ids.Meet(got, b)) > 0 || !ids.Rising(got) {
		t.Errorf("Less of many has %d", len(got))
	}
}

// 4.2: two digits for each byte, the higher half first, of a text of any size.
func TestHex(t *testing.T) {
	for _, c := range []struct{ id, want string }{
		{of(10), strings.Repeat("0a", 32)},
		{of(0), strings.Repeat("00", 32)},
		{of(255), strings.Repeat("ff", 32)},
		{of(0xa9), strings.Repeat("a9", 32)},
		{"", ""},
		{"\x00", "00"},
		{"\x01\x23\x45\x67\x89\xab\xcd\xef", "0123456789abcdef"},
		{"abc", "616263"},
		{"é😀\xff\xc3", "c3a9f09f9880ffc3"},
		{of(1)[:31], strings.Repeat("01", 31)},
		{of(1) + "\x02", strings.Repeat("01", 32) + "02"},
		{sha.ID([]byte("abc")), "ba7816bf8f01cfea414140de5dae2223b00361a396177a9cb410ff61f20015ad"},
	} {
		if got := ids.Hex(c.id); got != c.want {
			t.Errorf("Hex(%x): %q, want %q", c.id, got, c.want)
		}
	}
	for c := range 256 {
		id := string([]byte{byte(c)})
		if got := ids.Hex(id); got+" " != shown([]string{id}) {
			t.Errorf("Hex of the byte %d: %q", c, got)
		}
	}
}

// 4.2: the ID of which they are the digits, the higher half first, also of digits A to F.
func TestParse(t *testing.T) {
	for _, c := range []struct{ s, want string }{
		{strings.Repeat("0a", 32), of(10)},
		{strings.Repeat("0A", 32), of(10)},
		{strings.Repeat("a0", 32), of(160)},
		{strings.Repeat("0", 64), of(0)},
		{strings.Repeat("f", 64), of(255)},
		{strings.Repeat("F", 64), of(255)},
		{strings.Repeat("fF", 32), of(255)},
		{strings.Repeat("9a", 32), of(0x9a)},
		{strings.Repeat("0123456789abcdef", 4), strings.Repeat("\x01\x23\x45\x67\x89\xab\xcd\xef", 4)},
		{strings.Repeat("0123456789ABCDEF", 4), strings.Repeat("\x01\x23\x45\x67\x89\xab\xcd\xef", 4)},
		{"ba7816bf8f01cfea414140de5dae2223b00361a396177a9cb410ff61f20015ad", sha.ID([]byte("abc"))},
		{"BA7816bf8f01cfeA414140de5dae2223b00361a396177a9cb410ff61f20015aD", sha.ID([]byte("abc"))},
	} {
		got, e := ids.Parse(c.s)
		if got != c.want || e != api.OK {
			t.Errorf("Parse(%q): %x and %d, want %x", c.s, got, e, c.want)
		}
	}
}

// 4.2: what has not 64 digits, whichever they are.
func TestParseOfOtherSizes(t *testing.T) {
	for size := range 200 {
		s := strings.Repeat("1", size)
		got, e := ids.Parse(s)
		if size == 64 && (got != of(17) || e != api.OK) || size != 64 && (got != "" || e != api.ErrForm) {
			t.Errorf("Parse of %d digits: %x and %d", size, got, e)
		}
	}
	digits := strings.Repeat("1", 64)
	for _, s := range []string{"x", " " + digits, digits + " ", digits + "\n", "0x" + digits, "0x" + digits[2:], digits + "\x00", digits[:63] + "é", strings.Repeat("é", 64), strings.Repeat("１", 64)} {
		if got, e := ids.Parse(s); got != "" || e != api.ErrForm {
			t.Errorf("Parse(%q): %x and %d", s, got, e)
		}
	}
}

// 4.2: at each place each sign tells its own half of a byte, or is no digit.
func TestParseAtEachPlace(t *testing.T) {
	value := map[byte]int{}
	for i, c := range []byte("0123456789abcdef") {
		value[c] = i
	}
	for i, c := range []byte("ABCDEF") {
		value[c] = 10 + i
	}
	for place := range 64 {
		for c := range 256 {
			s := []byte(strings.Repeat("5", 64))
			s[place] = byte(c)
			want, wantE := "", api.ErrForm
			if n, ok := value[byte(c)]; ok {
				id := []byte(of(0x55))
				id[place/2] = byte([]int{n*16 + 5, 5*16 + n}[place%2])
				want, wantE = string(id), api.OK
			}
			if got, e := ids.Parse(string(s)); got != want || e != wantE {
				t.Errorf("Parse(%q): %x and %d, want %x and %d", s, got, e, want, wantE)
			}
		}
	}
}

// 4.2: the ID of all of a list that rises, one behind the other.
func TestTag(t *testing.T) {
	a, b, c := of(1), of(2), of(10)
	for _, x := range []struct {
		l    []string
		want string
	}{
		{nil, "e3b0c44298fc1c149afbf4c8996fb92427ae41e4649b934ca495991b7852b855"},
		{[]string{}, "e3b0c44298fc1c149afbf4c8996fb92427ae41e4649b934ca495991b7852b855"},
		{[]string{a}, "72cd6e8422c407fb6d098690f1130b7ded7ec2f7f5e1d30bd9d521f015363793"},
		{[]string{a, b}, "f818afd37a6dc3bc92fb44731011277006db4efa6e9023cd7468c02335d22a4d"},
		{[]string{a, b, c}, "b3ed09fce74148184b1f5f4d357402af906e037971e6cf30fbf816af63ba8867"},
		{[]string{of(0), of(127), of(128), of(255)}, "c7434aa18b6474795d99f25e234a525e0e2dee5066cf814e221919a9a03d3cf3"},
	} {
		got, e := ids.Tag(x.l)
		if shown([]string{got}) != x.want+" " || e != api.OK {
			t.Errorf("Tag(%s): %x and %d, want %s", shown(x.l), got, e, x.want)
		}
	}
}

// 4.2: what does not rise has no tag.
func TestTagOfOthers(t *testing.T) {
	a, b, c := of(1), of(2), of(10)
	others := [][]string{{b, a}, {a, a}, {a, b, b}, {a, c, b}, {c, b, a}}
	for _, x := range wrong() {
		others = append(others, []string{x}, []string{x, c}, []string{a, x}, []string{a, x, c}, []string{x, x})
	}
	others = append(others, []string{a[:31], "\x01" + b}, []string{a + b[:1], b[:31]}) // as many bytes as two IDs
	for _, l := range others {
		if got, e := ids.Tag(l); got != "" || e != api.ErrForm {
			t.Errorf("Tag(%s): %x and %d", shown(l), got, e)
		}
	}
}

// 4.3: what is put as digits is parsed, and, if they are a to f, put as the same digits again.
func TestHexIsParsed(t *testing.T) {
	all := notUTF8()
	for c := range 256 {
		all = append(all, of(byte(c)), with(c%32, byte(c)), sha.ID([]byte{byte(c)}))
	}
	for _, id := range all {
		s := ids.Hex(id)
		if got, e := ids.Parse(s); got != id || e != api.OK {
			t.Errorf("%x, put as %q, is parsed as %x and %d", id, s, got, e)
		}
		if got, e := ids.Parse(strings.ToUpper(s)); got != id || e != api.OK {
			t.Errorf("%x, put as %q, is parsed as %x and %d", id, strings.ToUpper(s), got, e)
		}
	}
	for _, id := range wrong() {
		if got, e := ids.Parse(ids.Hex(id)); got != "" || e != api.ErrForm {
			t.Errorf("%x, put as digits, is parsed as %x and %d", id, got, e)
		}
	}
}

// withRoom answers l with room behind it, in which other IDs are, and a copy of all of it.
func withRoom(l []string) (room, was []string) {
	room = append(slices.Clone(l), of(77), of(66), of(77), "y")
	return room, slices.Clone(room)
}

// R4, LANGUAGE 7: what is handed in is not changed, the room behind it neither, and an answer shares no memory with it.
func TestHandedIn(t *testing.T) {
	all := lists()
	for i, a := range all {
		b := all[(i*7+3)%len(all)]
		roomA, wasA := withRoom(a)
		roomB, wasB := withRoom(b)
		a, b := roomA[:len(a)], roomB[:len(b)]
		answers := [][]string{ids.Of(a), ids.Union(a, b), ids.Meet(a, b), ids.Less(a, b), ids.Union(a, a), ids.Meet(a, a), ids.Union(a, nil), ids.Less(a, nil), ids.Union(nil, a)}
		tag, e := ids.Tag(a)
		ids.Rising(a)
		ids.Has(a, of(3))
		var kept [][]string
		for _, l := range answers {
			kept = append(kept, slices.Clone(l))
		}
		checkList(t, "handed in", roomA, wasA)
		checkList(t, "handed in", roomB, wasB)
		for i := range roomA {
			roomA[i] = "other"
		}
		for i := range roomB {
			roomB[i] = "other"
		}
		for i, l := range answers {
			checkList(t, "an answer, when what was handed in changes", l, kept[i])
		}
		if got, f := ids.Tag(wasA[:len(a)]); got != tag || f != e {
			t.Errorf("Tag(%s) again: %x and %d, want %x and %d", shown(wasA[:len(a)]), got, f, tag, e)
		}
		roomA, roomB = slices.Clone(wasA), slices.Clone(wasB)
		a, b = roomA[:len(a)], roomB[:len(b)]
		for _, l := range [][]string{ids.Of(a), ids.Union(a, b), ids.Meet(a, b), ids.Less(a, b), ids.Union(a, nil), ids.Less(a, nil), ids.Union(nil, b)} {
			l = l[:cap(l)]
			for i := range l {
				l[i] = "other"
			}
		}
		checkList(t, "handed in, when an answer is written to", roomA, wasA)
		checkList(t, "handed in, when an answer is written to", roomB, wasB)
	}
}

// R5: what was asked ahead is not kept: the same is answered again, whatever was asked between.
func TestNothingIsKept(t *testing.T) {
	a, b := []string{of(5), of(3), "x"}, []string{of(3), of(4)}
	for range 3 {
		checkList(t, "Union", ids.Union(a, b), []string{of(3), of(4), of(5)})
		checkList(t, "Meet", ids.Meet(a, b), []string{of(3)})
		checkList(t, "Less", ids.Less(a, b), []string{of(5)})
		checkList(t, "Of", ids.Of(a), []string{of(3), of(5)})
		if _, e := ids.Tag(a); e != api.ErrForm {
			t.Errorf("Tag: %d", e)
		}
		if got, e := ids.Tag(b); got != sha.ID([]byte(of(3)+of(4))) || e != api.OK {
			t.Errorf("Tag: %x and %d", got, e)
		}
	}
}
