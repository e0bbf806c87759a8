package pool_test

import (
	"math/rand"
	"slices"
	"testing"

	"chantry/api"
	"chantry/pool"
)

// model is a pool as the document tells it: for each of its blocks, whether it is taken.
type model struct {
	span
	taken map[int]bool
}

func (m *model) copied() *model {
	c := &model{m.span, map[int]bool{}}
	for b := range m.taken {
		c.taken[b] = true
	}
	return c
}

func (m *model) list() []int {
	var l []int
	for b := m.from; b < m.to; b++ {
		if m.taken[b] {
			l = append(l, b)
		}
	}
	return l
}

func (m *model) take(n int) ([]int, api.Errno) {
	if n < 0 {
		return nil, api.ErrArg
	}
	free := without(all(m.span), m.list())
	if n > len(free) {
		return nil, api.ErrFull
	}
	for _, b := range free[:n] {
		m.taken[b] = true
	}
	return free[:n], api.OK
}

// turn marks l, or gives it back, if each of l is as it has to be for that.
func (m *model) turn(l []int, mark bool, refused api.Errno) api.Errno {
	for _, b := range l {
		if b < m.from || b >= m.to {
			return api.ErrBlock
		}
	}
	for i, b := range l {
		if m.taken[b] == mark || slices.Contains(l[:i], b) {
			return refused
		}
	}
	for _, b := range l {
		if mark {
			m.taken[b] = true
		} else {
			delete(m.taken, b)
		}
	}
	return api.OK
}

// some answers a list of up to most blocks: as a rule such as are all taken, or all free, now and then with one that is wrong.
func (m *model) some(r *rand.Rand, taken bool, most int) []int {
	l := m.list()
	if !taken {
		l = without(all(m.span), l)
	}
	r.Shuffle(len(l), func(i, k int) { l[i], l[k] = l[k], l[i] })
	l = l[:min(len(l), r.Intn(most+1))]
	at := r.Intn(len(l) + 1)
	switch r.Intn(8) {
	case 0:
		l = slices.Insert(l, at, r.Intn(m.to-m.from+8)+m.from-4)
	case 1:
		l = slices.Insert(l, at, outside[r.Intn(len(outside))])
	case 2:
		if len(l) > 0 {
			l = slices.Insert(l, at, l[r.Intn(len(l))])
		}
	}
	return l
}

// step does one deed of any kind to both, and holds what they answer.
func step(t *testing.T, r *rand.Rand, p *pool.Pool, m *model) {
	t.Helper()
	most := 1 + r.Intn(m.to-m.from+2)
	switch r.Intn(3) {
	case 0:
		n := r.Intn(most+2) - 1
		want, e := m.take(n)
		if e == api.OK {
			takes(t, p, n, want)
		} else {
			takesNone(t, p, n, e)
		}
	case 1:
		l := m.some(r, false, most)
		marks(t, p, l, m.turn(l, true, api.ErrTwice))
	case 2:
		l := m.some(r, true, most)
		gives(t, p, l, m.turn(l, false, api.ErrNone))
	}
}

// 11.1: many deeds, one behind the other, each answered as what is there asks for, and clones on the way.
func TestManyDeeds(t *testing.T) {
	r := rand.New(rand.NewSource(1111))
	for _, s := range spans {
		p, m := made(t, s.from, s.to), &model{s, map[int]bool{}}
		for range 300 {
			step(t, r, p, m)
			if r.Intn(10) > 0 {
				continue
			}
			holds(t, p, s, m.list())
			c, k := p.Clone(), m.copied()
			step(t, r, c, k)
			step(t, r, p, m)
			step(t, r, c, k)
			holds(t, c, s, k.list())
			holds(t, p, s, m.list())
			if r.Intn(2) == 0 { // either may be the one that goes on
				p, m = c, k
			}
		}
	}
}

// 11.1: all lists of few blocks on all pools of few.
func TestAllSmall(t *testing.T) {
	for _, s := range []span{{0, 3}, {1, 4}, {62, 65}, {63, 66}, {1021, 1024}} {
		for mask := range 8 {
			m := &model{s, map[int]bool{}}
			for i := range 3 {
				if mask>>i&1 == 1 {
					m.taken[s.from+i] = true
				}
			}
			for code := range 5 * 5 * 5 { // three of the blocks, and of those beside them
				l := []int{s.from - 1 + code%5, s.from - 1 + code/5%5, s.from - 1 + code/25}
				for n := range len(l) + 1 {
					p, k := with(t, s, m.list()), m.copied()
					marks(t, p, l[:n], k.turn(l[:n], true, api.ErrTwice))
					holdsFew(t, p, k)
					p, k = with(t, s, m.list()), m.copied()
					gives(t, p, l[:n], k.turn(l[:n], false, api.ErrNone))
					holdsFew(t, p, k)
				}
			}
		}
	}
}

// holdsFew is holds, of those alone that may have changed.
func holdsFew(t *testing.T, p *pool.Pool, m *model) {
	t.Helper()
	l := m.list()
	if !slices.Equal(p.Taken(), l) || p.Free() != m.to-m.from-len(l) {
		t.Fatalf("of %v, Taken: %v, Free: %d, want %v", m.span, p.Taken(), p.Free(), l)
	}
	for b := m.from - 1; b <= m.to; b++ {
		if p.Has(b) != m.taken[b] {
			t.Fatalf("of %v with %v, Has(%d): %t", m.span, l, b, !m.taken[b])
		}
	}
}

// 11.2: no block is taken twice; what is given back may be taken again; free and taken ones are all.
func TestNoneTwice(t *testing.T) {
	r := rand.New(rand.NewSource(112))
	for _, s := range spans {
		p := made(t, s.from, s.to)
		mine := map[int]bool{}
		for range 500 {
			if r.Intn(2) == 0 {
				n := r.Intn(p.Free() + 1)
				l, e := p.Take(n)
				if e != api.OK || len(l) != n {
					t.Fatalf("of %v, Take(%d): %v, %d", s, n, l, e)
				}
				for _, b := range l {
					if mine[b] || b < s.from || b >= s.to {
						t.Fatalf("of %v, %d is taken, which is no block, or is taken twice", s, b)
					}
					mine[b] = true
				}
			} else {
				var l []int
				for b := s.from; b < s.to; b++ {
					if mine[b] && r.Intn(2) == 0 {
						l = append(l, b)
						delete(mine, b)
					}
				}
				gives(t, p, l, api.OK)
			}
			if p.Free()+len(p.Taken()) != s.to-s.from || len(p.Taken()) != len(mine) {
				t.Fatalf("of %v, %d are free, and %d taken, want %d taken", s, p.Free(), len(p.Taken()), len(mine))
			}
		}
		takes(t, p, p.Free(), without(all(s), p.Taken()))
		holds(t, p, s, all(s))
		gives(t, p, all(s), api.OK)
		takes(t, p, s.to-s.from, all(s))
	}
}

// 11.1: a clone is the same, and then neither sees what is done to the other one.
func TestClone(t *testing.T) {
	for _, s := range spans {
		blocks := all(s)
		for _, taken := range [][]int{nil, every(s, 3, 1), blocks} {
			p := with(t, s, taken)
			c := p.Clone()
			d := c.Clone()
			holds(t, c, s, taken)
			gives(t, p, taken, api.OK)
			holds(t, c, s, taken)
			takes(t, c, c.Free(), without(blocks, taken))
			holds(t, p, s, nil)
			holds(t, d, s, taken)
			marks(t, p, blocks, api.OK)
			gives(t, c, blocks, api.OK)
			holds(t, p, s, blocks)
			holds(t, c, s, nil)
			holds(t, d, s, taken)
			for _, b := range near(s) {
				marks(t, d, []int{b}, api.ErrBlock)
			}
		}
	}
}

// spoil writes to what a caller has.
func spoil(l []int) {
	for i := range l {
		l[i] = -7
	}
	for i := range cap(l) {
		l[:cap(l)][i] = -7
	}
}

// 11.1, R4: what is answered, and what was handed in, shares nothing with the pool, nor with what is answered later.
func TestShared(t *testing.T) {
	for _, s := range spans {
		blocks := all(s)
		p := made(t, s.from, s.to)
		first, _ := p.Take(len(blocks) / 2)
		spoil(first)
		holds(t, p, s, blocks[:len(blocks)/2])
		seen, again := p.Taken(), p.Taken()
		spoil(seen)
		if !slices.Equal(again, blocks[:len(blocks)/2]) {
			t.Fatalf("of %v, two lists of those taken share what they have", s)
		}
		holds(t, p, s, blocks[:len(blocks)/2])
		l := slices.Clone(blocks[len(blocks)/2:])
		marks(t, p, l, api.OK)
		spoil(l)
		holds(t, p, s, blocks)
		l = slices.Clone(every(s, 2, 0))
		gives(t, p, l, api.OK)
		spoil(l)
		holds(t, p, s, every(s, 2, 1))
	}
}

// 11.1: two pools of the same blocks know nothing of one another.
func TestTwoPools(t *testing.T) {
	s := span{3, 70}
	p, other := made(t, 3, 70), made(t, 3, 70)
	takes(t, p, 67, all(s))
	holds(t, other, s, nil)
	takes(t, other, 1, []int{3})
	holds(t, p, s, all(s))
}

// 11.1: a nil pool answers ErrClosed, ahead of all else, or nothing.
func TestNil(t *testing.T) {
	var p *pool.Pool
	for _, n := range append([]int{0, 1, 64}, outside...) {
		takesNone(t, p, n, api.ErrClosed)
		if p.Has(n) {
			t.Errorf("a nil pool has %d", n)
		}
		for _, l := range [][]int{nil, {}, {n}, {n, n}, {3, n, 3}} {
			marks(t, p, l, api.ErrClosed)
			gives(t, p, l, api.ErrClosed)
		}
	}
	if p.Free() != 0 || len(p.Taken()) != 0 || p.Clone() != nil {
		t.Errorf("a nil pool: Free %d, Taken %v, Clone %v", p.Free(), p.Taken(), p.Clone())
	}
}

// 11, Ways: a pool has a set's methods, which tell the same of it.
func TestSet(t *testing.T) {
	p := made(t, 3, 70)
	marks(t, p, []int{3, 4, 6, 66}, api.OK)
	gives(t, p, []int{4}, api.OK)
	if p.Count() != 3 || p.Next(4) != 6 || p.Gap(3) != 4 || !slices.Equal(p.List(), []int{3, 6, 66}) {
		t.Errorf("Count %d, Next(4) %d, Gap(3) %d, List %v", p.Count(), p.Next(4), p.Gap(3), p.List())
	}
	takes(t, p, 64, without(all(span{3, 70}), []int{3, 6, 66}))
	if p.Count() != 67 || p.Gap(3) != -1 {
		t.Errorf("of all that are taken, Count %d, Gap(3) %d, want 67, -1", p.Count(), p.Gap(3))
	}
}
