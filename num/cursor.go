package num

import (
	"chantry/api"
)

// Cursor goes through bytes, from their beginning on. Once something was not there it is bad for ever.
type Cursor struct {
	left []byte
	bad  bool
}

// From answers a cursor at the beginning of b.
func From(b []byte) *Cursor {
	return &Cursor{left: copied(b)} // what becomes of b later on must not be seen
}

// Num takes the number that comes next.
func (c *Cursor) Num() int {
	if c.Bad() {
		return 0
	}
	n, size, e := Get(c.left)
	if e != api.OK {
		c.fail()
		return 0
	}
	c.left = c.left[size:]
	return n
}

// Byte takes the next byte.
func (c *Cursor) Byte() int {
	b := c.Take(1)
	if len(b) == 0 {
		return 0
	}
	return int(b[0])
}

// Take takes the next n bytes.
func (c *Cursor) Take(n int) []byte {
	if c.Bad() {
		return nil
	}
	if n < 0 || n > len(c.left) {
		c.fail()
		return nil
	}
	b := copied(c.left[:n]) // who writes to what was taken must not reach the cursor's bytes
	c.left = c.left[n:]
	return b
}

// Text takes the next text, and answers what it says, without how long it is.
func (c *Cursor) Text() []byte {
	n := c.Num()
	if n > api.MaxBytes {
		c.fail()
	}
	return c.Take(n)
}

// Left answers how many bytes are left: 0 of a bad cursor.
func (c *Cursor) Left() int {
	if c.Bad() {
		return 0
	}
	return len(c.left)
}

// Bad tells whether something was not there, or there is no cursor.
func (c *Cursor) Bad() bool {
	return c == nil || c.bad
}

func (c *Cursor) fail() {
	c.bad = true
	c.left = nil // nothing of it is ever taken again
}

func copied(b []byte) []byte {
	to := make([]byte, len(b))
	copy(to, b)
	return to
}
