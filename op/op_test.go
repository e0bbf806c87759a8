package op_test

import (
	"bytes"
	"encoding/hex"
	"math"
	"slices"
	"strconv"
	"strings"
	"testing"

	"chantry/api"
	"chantry/op"
)

const letters = "abcdefghijklmnopqrstuvwxyz0123456789-"

// id answers an ID of bytes that are all the same.
func id(c byte) string {
	return strings.Repeat(string([]byte{c}), 32)
}

// Names, texts, numbers and IDs that an operation may have, with their edges.
var (
	names = []string{"a", "z", "0", "9", "-", "n", "ab", "a-1", "----", "-a", "a-", "0123456789-", "abcdefghijkl", "zzzzzzzzzzzz", "------------"}
	texts = []string{
		"a", "ab", "\x00", "\xff", " ", "#", " #", "\x00\x00", "é", "\xed\xa0\x80", "count n 5", strings.Repeat("\x00", 47), strings.Repeat("x", 48), strings.Repeat("\xff", 48), strings.Repeat("é", 24),
	}
	numbers = []int{0, 1, 2, 5, 127, 128, 255, 256, 65535, 65536, 1<<24 - 1, 1 << 24, api.MaxNum - 1, api.MaxNum}
	rights  = []string{id(0), id(1), id(255), id('a'), strings.Repeat("é", 16), "0123456789abcdef0123456789abcdef"}
)

// What no operation may have.
var (
	noNames = []string{
		"A", "Z", "M", " ", "_", "a_", "_a", "a b", "a ", " a", "nA", "An", "aBc", "é", "aé", "\x80", "\xff", "a\x80", "a\x00", "\x00", "n.", "/", ":", "`", "{", "@", "[", ",", "+",
		"abcdefghijklm", "0123456789abc", strings.Repeat("a", 14), strings.Repeat("a", 24), strings.Repeat("a", 255), strings.Repeat("a", 256), strings.Repeat("a", 257), strings.Repeat("a", 268), strings.Repeat("é", 6), strings.Repeat("Z", 12),
	}
	noTexts   = []string{strings.Repeat("x", 49), strings.Repeat("\x00", 50), strings.Repeat("é", 25), strings.Repeat("x", 96), strings.Repeat("x", 256), strings.Repeat("x", 256+48), strings.Repeat("x", 1<<18), strings.Repeat("x", 1<<18+1)}
	noNumbers = []int{api.MaxNum + 1, api.MaxNum + 2, 1<<32 - 1, 1 << 32, 1<<32 + 1, 1<<32 + 5, 1 << 40, 1<<56 + 5, math.MaxInt - 1, math.MaxInt}
	noRights  = []string{"x", "\x00", id(7)[:31], id(7) + "\x07", id(7) + id(7), strings.Repeat("0a", 32), strings.Repeat("é", 32), strings.Repeat("a", 288), strings.Repeat("a", 1000)}
	noKinds   = []int{0, -1, -2, -7, 8, 9, 10, 16, 127, 128, 129, 255, 256, 257, 256 + 7, 1<<16 + 1, 1<<32 + 1, 1<<32 + 7, -1<<32 + 1, api.MaxNum, math.MaxInt, math.MinInt, math.MinInt + 1, math.MinInt + 7}
)

func withMinus(l []int) []int {
	all := slices.Clone(l)
	for _, n := range l {
		if n != 0 {
			all = append(all, -n)
		}
	}
	return all
}

// goods are operations that may be, of each kind, at the edges of all fields.
func goods() []api.Op {
	l := []api.Op{{Kind: 7}}
	for _, name := range names {
		for _, n := range withMinus(numbers) {
			l = append(l, api.Op{Kind: 1, Name: name, N: n})
		}
		for kind := 2; kind <= 4; kind++ {
			l = append(l, api.Op{Kind: kind, Name: name})
			for _, text := range texts {
				l = append(l, api.Op{Kind: kind, Name: name, Text: text})
			}
		}
		for _, text := range texts {
			l = append(l, api.Op{Kind: 5, Name: name, Text: text})
			for _, at := range rights {
				l = append(l, api.Op{Kind: 5, Name: name, Text: text, At: at})
			}
		}
		for _, at := range rights {
			l = append(l, api.Op{Kind: 6, Name: name, At: at})
		}
	}
	return l
}

// few are some operations that may be, one of each kind and form.
func few() []api.Op {
	return []api.Op{
		{Kind: 1, Name: "n"}, {Kind: 1, Name: "n", N: 5}, {Kind: 1, Name: "count", N: -api.MaxNum}, {Kind: 2, Name: "a", Text: "ab"}, {Kind: 2, Name: "abcdefghijkl"},
		{Kind: 3, Name: "s-1", Text: "\x00"}, {Kind: 4, Name: "w", Text: strings.Repeat("x", 48)}, {Kind: 5, Name: "l", Text: "ab"}, {Kind: 5, Name: "l", Text: "ab", At: id(9)},
		{Kind: 5, Name: "abcdefghijkl", Text: strings.Repeat("y", 48), At: id(1)}, {Kind: 6, Name: "l", At: id(0)}, {Kind: 7},
	}
}

// named is the tests' own rule of what a name is.
func named(s string) bool {
	return len(s) >= 1 && len(s) <= 12 && strings.Trim(s, letters) == ""
}

// fits is the tests' own rule of which operations may be.
func fits(o api.Op) bool {
	switch o.Kind {
	case 1:
		return named(o.Name) && o.Text == "" && o.N <= math.MaxInt32 && o.N > math.MinInt32 && o.At == ""
	case 2, 3, 4:
		return named(o.Name) && len(o.Text) <= 48 && o.N == 0 && o.At == ""
	case 5:
		return named(o.Name) && len(o.Text) >= 1 && len(o.Text) <= 48 && o.N == 0 && (o.At == "" || len(o.At) == 32)
	case 6:
		return named(o.Name) && o.Text == "" && o.N == 0 && len(o.At) == 32
	}
	return o == api.Op{Kind: 7}
}

// encoded answers the bytes of an operation that may be, as the document says them.
func encoded(o api.Op) string {
	text := func(s string) string { return string([]byte{byte(len(s))}) + s }
	head := string([]byte{byte(o.Kind)}) + text(o.Name)
	switch o.Kind {
	case 1:
		n, sign := o.N, byte(0)
		if n < 0 {
			n, sign = -n, 1
		}
		return head + string([]byte{sign, byte(n), byte(n >> 8), byte(n >> 16), byte(n >> 24)})
	case 2, 3, 4:
		return head + text(o.Text)
	case 5:
		if o.At == "" {
			return head + text(o.Text) + "\x00"
		}
		return head + text(o.Text) + "\x01" + o.At
	case 6:
		return head + o.At
	}
	return "\x07"
}

// line answers how an operation that may be is shown, as the document says it.
func line(o api.Op) string {
	digits := func(s string) string { return "#" + hex.EncodeToString([]byte(s)) }
	switch o.Kind {
	case 1:
		return strings.Join([]string{"count", o.Name, strconv.Itoa(o.N)}, " ")
	case 2:
		return strings.Join([]string{"add", o.Name, digits(o.Text)}, " ")
	case 3:
		return strings.Join([]string{"remove", o.Name, digits(o.Text)}, " ")
	case 4:
		return strings.Join([]string{"write", o.Name, digits(o.Text)}, " ")
	case 5:
		return strings.Join([]string{"insert", o.Name, digits(o.Text), digits(o.At)}, " ")
	case 6:
		return strings.Join([]string{"delete", o.Name, digits(o.At)}, " ")
	}
	return "merge"
}

// taken fails unless an operation is checked, put, got and shown as the document says.
func taken(t *testing.T, o api.Op) {
	t.Helper()
	if e := op.Check(o); e != api.OK {
		t.Fatalf("Check(%#v): %d", o, e)
	}
	b, e := op.Put(o)
	if e != api.OK || string(b) != encoded(o) {
		t.Fatalf("Put(%#v): %x, %d, want %x", o, b, e, encoded(o))
	}
	if s := op.Show(o); s != line(o) {
		t.Fatalf("Show(%#v): %q, want %q", o, s, line(o))
	}
	for _, tail := range []string{"", "\x00", "\x01", "\x07", "\xff", "\x80\x80", string(b), strings.Repeat("\x00", 40), strings.Repeat("a", 300)} {
		got(t, string(b)+tail, o, len(b))
	}
}

// got fails unless that operation is got of these bytes, and they are left as they were.
func got(t *testing.T, s string, want api.Op, wantSize int) {
	t.Helper()
	b := []byte(s)
	o, size, e := op.Get(b)
	if e != api.OK || o != want || size != wantSize {
		t.Fatalf("Get(%x): %#v, %d, %d, want %#v, %d", s, o, size, e, want, wantSize)
	}
	if string(b) != s {
		t.Fatalf("Get(%x) has made %x of it", s, b)
	}
}

// refused fails unless an operation is neither checked, nor put, nor shown.
func refused(t *testing.T, why string, o api.Op) {
	t.Helper()
	if fits(o) {
		t.Fatalf("%s: the test is wrong: %#v may be", why, o)
	}
	if e := op.Check(o); e != api.ErrArg {
		t.Fatalf("%s: Check(%#v): %d", why, o, e)
	}
	if b, e := op.Put(o); e != api.ErrArg || len(b) != 0 {
		t.Fatalf("%s: Put(%#v): %x, %d", why, o, b, e)
	}
	if s := op.Show(o); s != "?" {
		t.Fatalf("%s: Show(%#v): %q", why, o, s)
	}
}

// 14.1: the kinds stand under these numbers, of which the tests speak.
func TestKinds(t *testing.T) {
	l := []int{api.OpCount, api.OpAdd, api.OpRemove, api.OpWrite, api.OpInsert, api.OpDelete, api.OpMerge}
	if !slices.Equal(l, []int{1, 2, 3, 4, 5, 6, 7}) || api.MaxName != 12 || api.MaxText != 48 || api.IDSize != 32 || api.MaxNum != math.MaxInt32 {
		t.Fatal(l)
	}
}

// 14.1: each byte may stand in a name, at each place, or not.
func TestNameOfEachByte(t *testing.T) {
	for c := range 256 {
		one := string([]byte{byte(c)})
		want := strings.Contains(letters, one)
		for ahead := range 12 {
			for behind := range 12 - ahead {
				s := strings.Repeat("m", ahead) + one + strings.Repeat("5", behind)
				if op.Name(s) != want {
					t.Fatalf("Name(%q): %t", s, !want)
				}
				if (op.Check(api.Op{Kind: api.OpCount, Name: s}) == api.OK) != want {
					t.Fatalf("Check of the name %q: it may be: %t", s, !want)
				}
			}
		}
	}
}

// 14.1: a name has 1 to 12 bytes.
func TestNameOfEachLength(t *testing.T) {
	for size := range 1000 {
		for _, c := range []string{"a", "9", "-"} {
			s := strings.Repeat(c, size)
			if want := size >= 1 && size <= 12; op.Name(s) != want {
				t.Fatalf("Name(%q): %t", s, !want)
			}
		}
	}
	for _, size := range []int{1 << 16, 1<<16 + 5, 1 << 20} {
		if op.Name(strings.Repeat("a", size)) {
			t.Fatalf("a name of %d bytes", size)
		}
	}
}

// 14.1: names, and what is none.
func TestName(t *testing.T) {
	for _, s := range names {
		if !op.Name(s) {
			t.Errorf("%q is no name", s)
		}
	}
	for _, s := range append([]string{""}, noNames...) {
		if op.Name(s) {
			t.Errorf("%q is a name", s)
		}
	}
}

// 14.2: the chapter's examples and others, to the letter.
func TestToTheLetter(t *testing.T) {
	nines := strings.Repeat("09", 32)
	for _, c := range []struct {
		o     api.Op
		bytes string
		shown string
	}{
		{api.Op{Kind: api.OpCount, Name: "n", N: 5}, "01" + "016e" + "00" + "05000000", "count n 5"},
		{api.Op{Kind: api.OpCount, Name: "n"}, "01" + "016e" + "00" + "00000000", "count n 0"},
		{api.Op{Kind: api.OpCount, Name: "n", N: -1}, "01" + "016e" + "01" + "01000000", "count n -1"},
		{api.Op{Kind: api.OpCount, Name: "n", N: 0x01020304}, "01" + "016e" + "00" + "04030201", "count n 16909060"},
		{api.Op{Kind: api.OpCount, Name: "n", N: -256}, "01" + "016e" + "01" + "00010000", "count n -256"},
		{api.Op{Kind: api.OpCount, Name: "a-1", N: api.MaxNum}, "01" + "03612d31" + "00" + "ffffff7f", "count a-1 2147483647"},
		{api.Op{Kind: api.OpCount, Name: "abcdefghijkl", N: -api.MaxNum}, "01" + "0c6162636465666768696a6b6c" + "01" + "ffffff7f", "count abcdefghijkl -2147483647"},
		{api.Op{Kind: api.OpAdd, Name: "s", Text: "ab"}, "02" + "0173" + "026162", "add s #6162"},
		{api.Op{Kind: api.OpAdd, Name: "s"}, "02" + "0173" + "00", "add s #"},
		{api.Op{Kind: api.OpRemove, Name: "s", Text: "\x00\xff"}, "03" + "0173" + "0200ff", "remove s #00ff"},
		{api.Op{Kind: api.OpRemove, Name: "s"}, "03" + "0173" + "00", "remove s #"},
		{api.Op{Kind: api.OpWrite, Name: "r", Text: "é"}, "04" + "0172" + "02c3a9", "write r #c3a9"},
		{api.Op{Kind: api.OpWrite, Name: "r", Text: strings.Repeat("x", 48)}, "04" + "0172" + "30" + strings.Repeat("78", 48), "write r #" + strings.Repeat("78", 48)},
		{api.Op{Kind: api.OpWrite, Name: "r"}, "04" + "0172" + "00", "write r #"},
		{api.Op{Kind: api.OpInsert, Name: "l", Text: "ab"}, "05" + "016c" + "026162" + "00", "insert l #6162 #"},
		{api.Op{Kind: api.OpInsert, Name: "l", Text: "a", At: id(9)}, "05" + "016c" + "0161" + "01" + nines, "insert l #61 #" + nines},
		{api.Op{Kind: api.OpInsert, Name: "l", Text: strings.Repeat("x", 48), At: id(9)}, "05" + "016c" + "30" + strings.Repeat("78", 48) + "01" + nines, "insert l #" + strings.Repeat("78", 48) + " #" + nines},
		{api.Op{Kind: api.OpDelete, Name: "l", At: id(9)}, "06" + "016c" + nines, "delete l #" + nines},
		{api.Op{Kind: api.OpDelete, Name: "l", At: id(0xab)}, "06" + "016c" + strings.Repeat("ab", 32), "delete l #" + strings.Repeat("ab", 32)},
		{api.Op{Kind: api.OpMerge}, "07", "merge"},
	} {
		want, err := hex.DecodeString(c.bytes)
		if err != nil {
			t.Fatal(err)
		}
		if b, e := op.Put(c.o); e != api.OK || !bytes.Equal(b, want) {
			t.Errorf("Put(%#v): %x, %d, want %x", c.o, b, e, want)
		}
		if s := op.Show(c.o); s != c.shown {
			t.Errorf("Show(%#v): %q, want %q", c.o, s, c.shown)
		}
		if e := op.Check(c.o); e != api.OK {
			t.Errorf("Check(%#v): %d", c.o, e)
		}
		got(t, string(want), c.o, len(want))
		got(t, string(want)+"\x09", c.o, len(want))
		taken(t, c.o)
	}
}

// 14.1 to 14.3: whatever may be is checked, put, got whatever stands behind it, and shown.
func TestWhatMayBe(t *testing.T) {
	for _, o := range goods() {
		taken(t, o)
	}
}

// 14.1, 14.2: texts of each length and of each byte are put, got and shown.
func TestTexts(t *testing.T) {
	for kind := 2; kind <= 5; kind++ {
		for size := range 60 {
			o := api.Op{Kind: kind, Name: "t", Text: strings.Repeat("\x85", size)}
			if size > 48 || kind == 5 && size == 0 {
				refused(t, "a text's length", o)
				continue
			}
			taken(t, o)
		}
		for c := range 256 {
			taken(t, api.Op{Kind: kind, Name: "t", Text: string([]byte{byte(c)})})
			taken(t, api.Op{Kind: kind, Name: "t", Text: string([]byte{'a', byte(c), byte(c)})})
		}
	}
}

// 14.1, 14.2: numbers of all sizes, below 0 too, are put, got and shown.
func TestNumbers(t *testing.T) {
	for shift := range 31 {
		for add := -3; add <= 3; add++ {
			n := 1<<shift + add
			taken(t, api.Op{Kind: 1, Name: "n", N: n})
			taken(t, api.Op{Kind: 1, Name: "n", N: -n})
		}
	}
	for n := -1000; n <= 1000; n++ {
		taken(t, api.Op{Kind: 1, Name: "n", N: n})
	}
}

// 14.1: an operation of a name that is none may not be, nor one of a kind that has no name with one.
func TestNameRefused(t *testing.T) {
	for _, o := range few() {
		if o.Kind == 7 {
			for _, name := range slices.Concat(names, noNames) {
				o.Name = name
				refused(t, "a merge with a name", o)
			}
			continue
		}
		for _, name := range append([]string{""}, noNames...) {
			o.Name = name
			refused(t, "no name", o)
		}
	}
}

// 14.1: an operation whose text is too long may not be, nor an insert without one, nor one of a kind that has none with one.
func TestTextRefused(t *testing.T) {
	for _, o := range few() {
		wrong := noTexts
		if o.Kind == 1 || o.Kind == 6 || o.Kind == 7 {
			wrong = slices.Concat(texts, noTexts)
		}
		if o.Kind == 5 {
			wrong = append([]string{""}, noTexts...)
		}
		for _, text := range wrong {
			o.Text = text
			refused(t, "a text", o)
		}
	}
}

// 14.1: an operation whose number is past its edges may not be, nor one of a kind that has none with one.
func TestNumberRefused(t *testing.T) {
	for _, o := range few() {
		wrong := append(withMinus(noNumbers), math.MinInt, math.MinInt32)
		if o.Kind != 1 {
			wrong = append(wrong, withMinus(numbers[1:])...)
		}
		for _, n := range wrong {
			o.N = n
			refused(t, "a number", o)
		}
	}
}

// 14.1: an operation whose At is no right ID may not be, nor a delete without one, nor one of a kind that has none with one.
func TestAtRefused(t *testing.T) {
	for _, o := range few() {
		wrong := noRights
		if o.Kind != 5 && o.Kind != 6 {
			wrong = slices.Concat(rights, noRights)
		}
		if o.Kind == 6 {
			wrong = append([]string{""}, noRights...)
		}
		for _, at := range wrong {
			o.At = at
			refused(t, "an At", o)
		}
	}
}

// 14.1: an operation of a kind that is none may not be, whatever else it has.
func TestKindRefused(t *testing.T) {
	for _, o := range append(few(), api.Op{}) {
		for _, kind := range noKinds {
			o.Kind = kind
			refused(t, "a kind", o)
		}
		for kind := -300; kind < 300; kind++ {
			if kind < 1 || kind > 7 {
				o.Kind = kind
				refused(t, "a kind", o)
			}
		}
	}
}

// 14.1, 14.2: of all kinds, with all that fields may and may not be, just those are taken that may be.
func TestAllFieldsTogether(t *testing.T) {
	someNames := []string{"", "n", "a-1", "abcdefghijkl", "abcdefghijklm", "A", "a b"}
	someTexts := []string{"", "ab", "\x00", strings.Repeat("x", 48), strings.Repeat("x", 49)}
	someNumbers := []int{0, 1, -1, api.MaxNum, -api.MaxNum, api.MaxNum + 1, -api.MaxNum - 1, math.MinInt, math.MaxInt}
	someAts := []string{"", id(0), id(9), id(9)[:31], id(9) + "\x09", "x"}
	known := 0
	for kind := -2; kind <= 10; kind++ {
		for _, name := range someNames {
			for _, text := range someTexts {
				for _, n := range someNumbers {
					for _, at := range someAts {
						o := api.Op{Kind: kind, Name: name, Text: text, N: n, At: at}
						if !fits(o) {
							refused(t, "fields", o)
							continue
						}
						known++
						taken(t, o)
					}
				}
			}
		}
	}
	if want := 3*5 + 3*3*4 + 3*3*3 + 3*2 + 1; known != want {
		t.Fatalf("%d of them may be, want %d", known, want)
	}
}

// 14.3: of operations that may be those that are unlike are shown, and put, unlike.
func TestShownUnlike(t *testing.T) {
	all := append(goods(), few()...)
	for _, kind := range []int{2, 3, 4, 5} {
		for _, name := range []string{"n", "n-", "-n", "6", "61"} {
			for _, text := range []string{"a", "aa", "a#", "#a", " a", "61", "\x61 ", "0", "00", "\x00", "\x00\x00", id(9), "\x09"} {
				all = append(all, api.Op{Kind: kind, Name: name, Text: text})
				if kind == 5 {
					all = append(all, api.Op{Kind: kind, Name: name, Text: text, At: id(9)}, api.Op{Kind: kind, Name: name, Text: text, At: id(0)})
				}
			}
		}
	}
	lines, puts := map[string]api.Op{}, map[string]api.Op{}
	for _, o := range all {
		s := op.Show(o)
		if other, ok := lines[s]; ok && other != o {
			t.Fatalf("%#v and %#v are both shown as %q", o, other, s)
		}
		lines[s] = o
		b, e := op.Put(o)
		if other, ok := puts[string(b)]; e != api.OK || ok && other != o {
			t.Fatalf("%#v and %#v are both put as %x, %d", o, other, b, e)
		}
		puts[string(b)] = o
	}
	if len(lines) != len(puts) || len(lines) < 2000 {
		t.Fatalf("%d lines, %d puts", len(lines), len(puts))
	}
}

// 14.2: no operation's bytes begin with another one's, so what stands behind it is never taken for its own.
func TestNoneBeginsAnother(t *testing.T) {
	var l []string
	for _, o := range goods() {
		b, _ := op.Put(o)
		l = append(l, string(b))
	}
	slices.Sort(l)
	for i := 1; i < len(l); i++ { // of texts that rise, what begins with another one stands just behind it, or behind such a one
		if strings.HasPrefix(l[i], l[i-1]) {
			t.Fatalf("%x begins with %x", l[i], l[i-1])
		}
	}
}

// R4, R5: what is put is new each time, and nobody's own.
func TestPutStandsAlone(t *testing.T) {
	for _, o := range few() {
		one, e := op.Put(o)
		two, f := op.Put(o)
		if e != api.OK || f != api.OK {
			t.Fatal(e, f)
		}
		one = append(one, 77)[:len(one)]
		for i := range one {
			one[i] ^= 255
		}
		if string(two) != encoded(o) {
			t.Fatalf("Put(%#v) has become %x", o, two)
		}
		taken(t, o)
	}
}
