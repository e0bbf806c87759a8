package num

import (
	"bytes"
	"math"
	"testing"

	"chantry/api"
)

// checkBad asks that a cursor is bad, and stays so whatever is asked of it.
func checkBad(t *testing.T, name string, c *Cursor) {
	t.Helper()
	for range 2 {
		if !c.Bad() {
			t.Errorf("%s: the cursor is not bad", name)
		}
		if n := c.Left(); n != 0 {
			t.Errorf("%s: %d bytes are left", name, n)
		}
		if n := c.Num(); n != 0 {
			t.Errorf("%s: Num: %d", name, n)
		}
		if n := c.Byte(); n != 0 {
			t.Errorf("%s: Byte: %d", name, n)
		}
		for _, n := range []int{0, 1, -1} {
			if b := c.Take(n); len(b) != 0 {
				t.Errorf("%s: Take(%d): %x", name, n, b)
			}
		}
		if b := c.Text(); len(b) != 0 {
			t.Errorf("%s: Text: %x", name, b)
		}
	}
}

// 1.2: each call takes what comes next, and goes past it.
func TestCursor(t *testing.T) {
	c := From([]byte{172, 2, 255, 1, 2, 3, 2, 97, 98, 0, 0, 128, 5})
	left := func(want int) {
		t.Helper()
		if n := c.Left(); n != want || c.Bad() {
			t.Fatalf("%d bytes are left, want %d; bad: %v", n, want, c.Bad())
		}
	}
	left(13)
	if n := c.Num(); n != 300 {
		t.Errorf("Num: %d", n)
	}
	left(11)
	if n := c.Byte(); n != 255 {
		t.Errorf("Byte: %d", n)
	}
	left(10)
	if b := c.Take(0); len(b) != 0 {
		t.Errorf("Take(0): %x", b)
	}
	left(10)
	if b := c.Take(3); string(b) != "\x01\x02\x03" {
		t.Errorf("Take(3): %x", b)
	}
	left(7)
	if b := c.Text(); string(b) != "ab" {
		t.Errorf("Text: %x", b)
	}
	left(4)
	if b := c.Text(); len(b) != 0 {
		t.Errorf("Text of no bytes: %x", b)
	}
	left(3)
	if n := c.Num(); n != 0 {
		t.Errorf("Num of 0: %d", n)
	}
	left(2)
	if b := c.Take(2); string(b) != "\x80\x05" {
		t.Errorf("Take(2): %x", b)
	}
	left(0)
	if b := c.Take(0); len(b) != 0 {
		t.Errorf("Take(0) at the end: %x", b)
	}
	left(0)
}

// 1.2: numbers are taken at their edges.
func TestCursorNumbers(t *testing.T) {
	var b []byte
	for _, n := range numbers() {
		p, _ := Put(n)
		b = append(b, p...)
	}
	c := From(b)
	for _, n := range numbers() {
		if m := c.Num(); m != n {
			t.Errorf("Num: %d, want %d", m, n)
		}
	}
	if c.Bad() || c.Left() != 0 {
		t.Errorf("behind the last number: bad: %v, %d left", c.Bad(), c.Left())
	}
}

// 1.2: a cursor on no bytes is not bad till something is asked of it that is not there.
func TestCursorOnNothing(t *testing.T) {
	for _, b := range [][]byte{nil, {}} {
		c := From(b)
		if c == nil || c.Bad() || c.Left() != 0 || len(c.Take(0)) != 0 || c.Bad() {
			t.Errorf("From(%v) is bad from the beginning", b)
		}
		if n := c.Byte(); n != 0 {
			t.Errorf("From(%v): Byte: %d", b, n)
		}
		checkBad(t, "nothing", c)
	}
}

// 1.2: what is not there makes a cursor bad for ever, and is answered by zero values.
func TestCursorGoesBad(t *testing.T) {
	long, _ := Put(api.MaxBytes + 1)
	most, _ := Put(api.MaxNum)
	tooLong := append(bytes.Clone(long), make([]byte, api.MaxBytes+1)...)
	short, _ := Put(api.MaxBytes)
	short = append(short, make([]byte, api.MaxBytes-1)...)
	num := func(c *Cursor) int { return c.Num() }
	one := func(c *Cursor) int { return c.Byte() }
	text := func(c *Cursor) int { return len(c.Text()) }
	take := func(n int) func(c *Cursor) int { return func(c *Cursor) int { return len(c.Take(n)) } }
	for _, v := range []struct {
		name string
		b    []byte
		call func(c *Cursor) int
	}{
		{"Num of nothing", nil, num},
		{"Num cut off", []byte{172}, num},
		{"Num of more than is needed", []byte{128, 0, 5, 5}, num},
		{"Num above MaxNum", []byte{255, 255, 255, 255, 8, 5}, num},
		{"Num of six bytes", []byte{128, 128, 128, 128, 128, 1, 5}, num},
		{"Byte of nothing", nil, one},
		{"Take of one more", []byte{1, 2, 3}, take(4)},
		{"Take of very many", []byte{1, 2, 3}, take(math.MaxInt)},
		{"Take below 0", []byte{1, 2, 3}, take(-1)},
		{"Take far below 0", []byte{1, 2, 3}, take(math.MinInt)},
		{"Text of nothing", nil, text},
		{"Text without a number", []byte{128, 0, 5, 5}, text},
		{"Text cut off", []byte{3, 97, 98}, text},
		{"Text without its bytes", []byte{1}, text},
		{"Text too long", tooLong, text},
		{"Text too long, and cut off", long, text},
		{"Text of MaxNum", append(most, 1, 2, 3), text},
		{"Text of MaxBytes, cut off", short, text},
	} {
		c := From(v.b)
		if n := v.call(c); n != 0 {
			t.Errorf("%s: %d", v.name, n)
		}
		checkBad(t, v.name, c)
	}
}

// 1.2: a cursor that has gone past something goes bad in the midst too.
func TestCursorGoesBadInTheMidst(t *testing.T) {
	c := From([]byte{5, 2, 97, 98, 7, 5})
	if n := c.Num(); n != 5 || c.Bad() {
		t.Fatalf("Num: %d, bad: %v", n, c.Bad())
	}
	if s := c.Text(); string(s) != "ab" || c.Left() != 2 {
		t.Fatalf("Text: %x, %d left", s, c.Left())
	}
	if b := c.Take(3); len(b) != 0 {
		t.Errorf("Take(3): %x", b)
	}
	checkBad(t, "in the midst", c)
}

// 1.2: a text of MaxBytes bytes is taken, with what is behind it left.
func TestCursorTextOfMaxBytes(t *testing.T) {
	b, e := Text(sample(api.MaxBytes))
	if e != api.OK {
		t.Fatal(e)
	}
	c := From(append(b, 9))
	if s := c.Text(); !bytes.Equal(s, sample(api.MaxBytes)) {
		t.Errorf("Text: %d bytes", len(s))
	}
	if n := c.Byte(); n != 9 || c.Bad() {
		t.Errorf("behind it: %d, bad: %v", n, c.Bad())
	}
}

// 1.2: a nil cursor is bad, and nothing panics on it.
func TestNilCursor(t *testing.T) {
	checkBad(t, "nil", nil)
}

// 1.2, and the chapter's way: what a cursor takes is copied.
func TestCursorCopies(t *testing.T) {
	b := []byte{1, 2, 3, 2, 97, 98, 9}
	was := bytes.Clone(b)
	c := From(b)
	one := c.Take(3)
	one[0] = 77
	_ = append(one, 88, 88) // what has room behind it must not reach the cursor's bytes either
	text := c.Text()
	if string(text) != "ab" {
		t.Errorf("Text behind what was written to: %x", text)
	}
	text[0] = 77
	_ = append(text, 88)
	if !bytes.Equal(b, was) {
		t.Errorf("what was handed in has changed to %x", b)
	}
	if n := c.Byte(); n != 9 {
		t.Errorf("Byte behind what was written to: %d", n)
	}
}

// R5: what a cursor answers does not hang on what becomes of the bytes that it was made of.
func TestCursorKeepsNothing(t *testing.T) {
	b := []byte{5, 1, 97}
	c := From(b)
	one := c.Take(1)
	clear(b)
	if s := c.Text(); string(one) != "\x05" || string(s) != "a" || c.Left() != 0 || c.Bad() {
		t.Errorf("took %x, then the text %x", one, s)
	}
}

// Two cursors on the same bytes know nothing of one another.
func TestCursorsStandAlone(t *testing.T) {
	b := []byte{5, 6}
	c, d := From(b), From(b)
	c.Take(9)
	if n := d.Byte(); n != 5 || d.Bad() || d.Left() != 1 || !c.Bad() {
		t.Errorf("Byte: %d, bad: %v, %d left", n, d.Bad(), d.Left())
	}
}
