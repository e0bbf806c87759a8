package bits_test

import (
	"math"
	"slices"
	"testing"

	"chantry/api"
	"chantry/bits"
)

// sizes are those of no numbers, of few, of about a word or more of them, and of as many as there may be.
var sizes = []int{0, 1, 2, 3, 31, 32, 33, 63, 64, 65, 100, 127, 128, 129, 191, 192, 193, 4031, 4032, 4033, 4095, 4096}

// below are numbers that stand ahead of all of a set's, near and far, and such as are 0 or more in fewer bits.
var below = []int{-1, -2, -63, -64, -65, -128, -4095, -4096, -4097, math.MinInt32, math.MinInt32 - 1, -1 << 32, math.MinInt + 1, math.MinInt}

// beyond answers numbers that stand behind all those of a set of n: n itself, near and far, and such as are less in fewer bits.
func beyond(n int) []int {
	return []int{
		n, n + 1, n + 2, n + 62, n + 63, n + 64, n + 65, n + 4096, 1 << 13, math.MaxInt32, math.MaxInt32 + 1, math.MaxUint32,
		1 << 32, 1<<32 + 3, 1<<62 + 64, math.MaxInt - 64, math.MaxInt - 1, math.MaxInt,
	}
}

// edges answers those numbers of a set of n that are the first, the last, or next to where a word ends.
func edges(n int) []int {
	var l []int
	for i := range n {
		if i < 2 || i >= n-2 || i%64 < 2 || i%64 > 61 {
			l = append(l, i)
		}
	}
	return l
}

func made(t *testing.T, n int) *bits.Set {
	t.Helper()
	s, e := bits.Of(n)
	if e != api.OK || s == nil {
		t.Fatalf("Of(%d): %v, %d", n, s, e)
	}
	return s
}

// filled answers a set in which is what in says, added from both ends.
func filled(t *testing.T, in []bool) *bits.Set {
	t.Helper()
	s := made(t, len(in))
	for low, high := 0, len(in)-1; low <= high; low, high = low+1, high-1 {
		if in[high] && s.Add(high) != api.OK || low < high && in[low] && s.Add(low) != api.OK {
			t.Fatalf("of %d, %d or %d is not added", len(in), low, high)
		}
	}
	return s
}

// chosen answers which of n numbers are wanted.
func chosen(n int, wanted func(i int) bool) []bool {
	in := make([]bool, n)
	for i := range in {
		in[i] = wanted(i)
	}
	return in
}

// listed answers which of in are there, rising.
func listed(in []bool) []int {
	var l []int
	for i, there := range in {
		if there {
			l = append(l, i)
		}
	}
	return l
}

// check holds all that a set tells against what is in it.
func check(t *testing.T, s *bits.Set, in []bool) {
	t.Helper()
	n, want := len(in), listed(in)
	if got := s.List(); !slices.Equal(got, want) {
		t.Fatalf("of %d, List: %v, want %v", n, got, want)
	}
	if got := s.Count(); got != len(want) {
		t.Fatalf("of %d, Count: %d, want %d", n, got, len(want))
	}
	next, gap := -1, -1
	for i := n - 1; i >= 0; i-- {
		if in[i] {
			next = i
		} else {
			gap = i
		}
		if s.Has(i) != in[i] {
			t.Fatalf("of %d with %v, Has(%d): %t", n, want, i, !in[i])
		}
		checkFrom(t, s, i, next, gap)
	}
	for _, i := range below {
		checkFrom(t, s, i, next, gap)
		if s.Has(i) {
			t.Fatalf("of %d with %v, Has(%d)", n, want, i)
		}
	}
	for _, i := range beyond(n) {
		checkFrom(t, s, i, -1, -1)
		if s.Has(i) {
			t.Fatalf("of %d with %v, Has(%d)", n, want, i)
		}
	}
}

func checkFrom(t *testing.T, s *bits.Set, from, next, gap int) {
	t.Helper()
	if got := s.Next(from); got != next {
		t.Fatalf("with %v, Next(%d): %d, want %d", s.List(), from, got, next)
	}
	if got := s.Gap(from); got != gap {
		t.Fatalf("with %v, Gap(%d): %d, want %d", s.List(), from, got, gap)
	}
}

// fillings are sets of n numbers: none there, all, one, all but one, every other one, whole words, few, many.
func fillings(n int) [][]bool {
	l := [][]bool{
		chosen(n, func(i int) bool { return false }),
		chosen(n, func(i int) bool { return true }),
		chosen(n, func(i int) bool { return i%2 == 0 }),
		chosen(n, func(i int) bool { return i%2 == 1 }),
		chosen(n, func(i int) bool { return i/64%2 == 0 }),
		chosen(n, func(i int) bool { return i/64%2 == 1 }),
		chosen(n, func(i int) bool { return i%97 == 50 }),
		chosen(n, func(i int) bool { return i%97 != 50 }),
		chosen(n, func(i int) bool { return i < n/2 }),
		chosen(n, func(i int) bool { return i >= n/2 }),
	}
	one := []int{0, 1, 31, 32, 33, 62, 63, 64, 65, 127, 128, 129, 2047, 2048, 4031, 4032, n - 2, n - 1}
	slices.Sort(one)
	for _, k := range slices.Compact(one) {
		if k >= 0 && k < n {
			l = append(l, chosen(n, func(i int) bool { return i == k }), chosen(n, func(i int) bool { return i != k }))
		}
	}
	return l
}

// 5.1: of 0 to MaxNodes numbers there is a set, in which none is.
func TestOf(t *testing.T) {
	for n := range api.MaxNodes + 1 {
		s := made(t, n)
		gap := 0
		if n == 0 {
			gap = -1
		}
		if s.Count() != 0 || len(s.List()) != 0 || s.Next(0) != -1 || s.Gap(0) != gap || s.Gap(n-1) != n-1 || s.Gap(n) != -1 || s.Has(n-1) {
			t.Errorf("Of(%d): Count %d, List %v, Next %d, Gap %d", n, s.Count(), s.List(), s.Next(0), s.Gap(0))
		}
		if n > 0 && s.Add(n-1) != api.OK || s.Add(n) != api.ErrBlock {
			t.Errorf("Of(%d): %d is not its last number", n, n-1)
		}
	}
	for _, n := range sizes {
		check(t, made(t, n), make([]bool, n))
	}
}

// 5.1: ErrArg, and no set, of less than 0 and of more than MaxNodes.
func TestOfWrong(t *testing.T) {
	for _, n := range append(beyond(4097), below...) {
		if s, e := bits.Of(n); s != nil || e != api.ErrArg {
			t.Errorf("Of(%d): %v, %d, want ErrArg", n, s, e)
		}
	}
}

// 5.1: the chapter's example.
func TestExample(t *testing.T) {
	s := made(t, 100)
	if s.Add(3) != api.OK || s.Add(70) != api.OK || s.Next(4) != 70 || s.Gap(3) != 4 {
		t.Errorf("Next(4): %d, Gap(3): %d, want 70, 4", s.Next(4), s.Gap(3))
	}
}

// 5.1: each number is added once, and dropped once, and nothing else changes by it; what is refused changes nothing.
func TestAddAndDrop(t *testing.T) {
	for _, n := range sizes {
		s := made(t, n)
		in := make([]bool, n)
		for i := range n {
			if e := s.Drop(i); e != api.ErrNone {
				t.Fatalf("of %d, Drop(%d) of what is not there: %d, want ErrNone", n, i, e)
			}
			if e := s.Add(i); e != api.OK || !s.Has(i) || s.Count() != i+1 {
				t.Fatalf("of %d, Add(%d): %d, and then there are %d", n, i, e, s.Count())
			}
			if e := s.Add(i); e != api.ErrTwice || !s.Has(i) || s.Count() != i+1 {
				t.Fatalf("of %d, Add(%d) twice: %d, and then there are %d", n, i, e, s.Count())
			}
			in[i] = true
		}
		check(t, s, in)
		for k := range n {
			i := n - 1 - k
			if e := s.Drop(i); e != api.OK || s.Has(i) || s.Count() != i {
				t.Fatalf("of %d, Drop(%d): %d, and then there are %d", n, i, e, s.Count())
			}
			if e := s.Drop(i); e != api.ErrNone || s.Has(i) || s.Count() != i {
				t.Fatalf("of %d, Drop(%d) twice: %d, and then there are %d", n, i, e, s.Count())
			}
		}
		check(t, s, make([]bool, n))
	}
}

// 5.1: a number that is alone there, or alone not there, at each edge.
func TestOneAlone(t *testing.T) {
	for _, n := range sizes {
		s := made(t, n)
		in := make([]bool, n)
		for _, i := range edges(n) {
			in[i] = true
			if e := s.Add(i); e != api.OK {
				t.Fatalf("of %d, Add(%d): %d", n, i, e)
			}
			check(t, s, in)
			in[i] = false
			if e := s.Drop(i); e != api.OK {
				t.Fatalf("of %d, Drop(%d): %d", n, i, e)
			}
		}
		check(t, s, in)
	}
}

// 5.1: sets of all kinds.
func TestFillings(t *testing.T) {
	for _, n := range sizes {
		for _, in := range fillings(n) {
			check(t, filled(t, in), in)
		}
	}
}

// 5.1: ErrBlock of what is none of a set's numbers, ahead of whether it is there, and nothing has changed.
func TestNoBlock(t *testing.T) {
	for _, n := range sizes {
		for _, in := range fillings(n)[:2] { // none there, and all
			s := filled(t, in)
			for _, i := range append(beyond(n), below...) {
				if e := s.Add(i); e != api.ErrBlock {
					t.Errorf("of %d, Add(%d): %d, want ErrBlock", n, i, e)
				}
				if e := s.Drop(i); e != api.ErrBlock {
					t.Errorf("of %d, Drop(%d): %d, want ErrBlock", n, i, e)
				}
				if s.Has(i) {
					t.Errorf("of %d, Has(%d)", n, i)
				}
			}
			check(t, s, in)
		}
	}
}

// 5.1: all sets of few numbers, and all that differ about where a word ends.
func TestAllSmall(t *testing.T) {
	for _, c := range []struct{ n, from int }{
		{0, 0}, {1, 0}, {2, 0}, {3, 0}, {8, 0}, {62, 55}, {63, 55}, {64, 56}, {65, 57}, {68, 60}, {69, 60}, {130, 124}, {4096, 4090},
	} {
		wide := min(c.n-c.from, 8)
		for mask := range 1 << wide {
			in := chosen(c.n, func(i int) bool { return i >= c.from && i < c.from+wide && mask>>(i-c.from)&1 == 1 })
			check(t, filled(t, in), in)
		}
	}
}

// 5.1: many calls, one behind the other, each answered as what is there asks for.
func TestManyCalls(t *testing.T) {
	seed := uint64(5)
	for _, n := range sizes {
		s := made(t, n)
		in := make([]bool, n)
		for step := range 3000 {
			seed = seed*6364136223846793005 + 1442695040888963407
			i := int(seed>>40)%(n+8) - 4
			add := seed>>33&3 > uint64(step/1000) // first most are added, then most are dropped
			want, got := api.OK, api.OK
			switch {
			case i < 0 || i >= n:
				want = api.ErrBlock
			case add && in[i]:
				want = api.ErrTwice
			case !add && !in[i]:
				want = api.ErrNone
			default:
				in[i] = add
			}
			if add {
				got = s.Add(i)
			} else {
				got = s.Drop(i)
			}
			if got != want {
				t.Fatalf("of %d, at step %d, %d, added: %t: %d, want %d", n, step, i, add, got, want)
			}
			if step%250 == 0 {
				check(t, s, in)
			}
		}
		check(t, s, in)
	}
}

// 5.2: Next, again and again from one more, gives List, and Gap the rest; both together are all.
func TestGoThrough(t *testing.T) {
	for _, n := range sizes {
		for _, in := range fillings(n) {
			s := filled(t, in)
			var there, gone []int
			for i := s.Next(0); i != -1; i = s.Next(i + 1) {
				there = append(there, i)
			}
			for i := s.Gap(0); i != -1; i = s.Gap(i + 1) {
				gone = append(gone, i)
			}
			if !slices.Equal(there, s.List()) {
				t.Errorf("of %d, by Next: %v, by List: %v", n, there, s.List())
			}
			all := slices.Sorted(slices.Values(slices.Concat(there, gone)))
			if len(all) != n || len(slices.Compact(all)) != n || n > 0 && (all[0] != 0 || all[n-1] != n-1) {
				t.Errorf("of %d, %v are there, %v are not", n, there, gone)
			}
			if len(there) != s.Count() {
				t.Errorf("of %d, %v are there, Count: %d", n, there, s.Count())
			}
		}
	}
}

// 5.1: a clone is the same, but what becomes of one of them is not seen in the other one, nor in a clone of it.
func TestClone(t *testing.T) {
	for _, n := range sizes {
		for _, in := range fillings(n) {
			s := filled(t, in)
			c := s.Clone()
			if c == nil || c == s {
				t.Fatalf("of %d, the clone is no set of its own", n)
			}
			check(t, c, in)
			turned := chosen(n, func(i int) bool { return !in[i] })
			turn(t, c, in)
			check(t, s, in)
			check(t, c, turned)
			d := c.Clone()
			turn(t, s, in)
			turn(t, d, turned)
			check(t, s, turned)
			check(t, c, turned)
			check(t, d, in)
			if c.Add(n) != api.ErrBlock || d.Drop(n) != api.ErrBlock {
				t.Errorf("a clone of a set of %d has the number %d", n, n)
			}
		}
	}
}

// turn drops from a set all that is in it, and adds the others.
func turn(t *testing.T, s *bits.Set, in []bool) {
	t.Helper()
	for i, there := range in {
		e := api.OK
		if there {
			e = s.Drop(i)
		} else {
			e = s.Add(i)
		}
		if e != api.OK {
			t.Fatalf("of %d, %d, which is there: %t: %d", len(in), i, there, e)
		}
	}
}

// 5.1: sets that were made alike have nothing to do with each other.
func TestTwoSets(t *testing.T) {
	a, b := made(t, 70), made(t, 70)
	if a.Add(69) != api.OK || b.Add(3) != api.OK {
		t.Error("not added")
	}
	if !slices.Equal(a.List(), []int{69}) || !slices.Equal(b.List(), []int{3}) {
		t.Errorf("%v and %v", a.List(), b.List())
	}
}

// 5.1, R4: what is asked changes nothing; a list that was told is new memory.
func TestAskedOnly(t *testing.T) {
	for _, in := range fillings(129) {
		s := filled(t, in)
		l := s.List()
		for i := range l {
			l[i] = -7
		}
		_ = append(s.List(), 5)
		check(t, s, in)
		check(t, s, in)
		l = s.List()
		want := listed(in)
		turn(t, s, in)
		if !slices.Equal(l, want) {
			t.Errorf("what was told became %v, want %v", l, want)
		}
	}
}

// 5.1, R1: on nil all calls answer what is said of them, whatever they are given.
func TestNil(t *testing.T) {
	var s *bits.Set
	for _, i := range append(append(beyond(0), below...), 0, 1, 63, 64, 65, 4095, 4096) {
		if e := s.Add(i); e != api.ErrClosed {
			t.Errorf("Add(%d): %d, want ErrClosed", i, e)
		}
		if e := s.Drop(i); e != api.ErrClosed {
			t.Errorf("Drop(%d): %d, want ErrClosed", i, e)
		}
		if s.Has(i) || s.Next(i) != -1 || s.Gap(i) != -1 {
			t.Errorf("%d: Has %t, Next %d, Gap %d", i, s.Has(i), s.Next(i), s.Gap(i))
		}
	}
	if s.Count() != 0 || len(s.List()) != 0 || s.Clone() != nil {
		t.Errorf("Count %d, List %v, Clone %v", s.Count(), s.List(), s.Clone())
	}
}
