package pool_test

import (
	"math"
	"math/rand"
	"slices"
	"testing"

	"chantry/api"
	"chantry/pool"
)

// span is the blocks of a pool: from to to - 1.
type span struct{ from, to int }

// spans are pools of no blocks, of one, of some, of all, that begin and end where a word of a set does, and next to it.
var spans = []span{
	{0, 0}, {0, 1}, {0, 2}, {0, 63}, {0, 64}, {0, 65}, {0, 128}, {0, 1023}, {0, 1024},
	{1, 1}, {1, 2}, {2, 16}, {3, 9}, {3, 64}, {5, 70}, {5, 1024},
	{63, 63}, {63, 64}, {63, 65}, {64, 64}, {64, 65}, {64, 128}, {64, 129}, {65, 65}, {65, 66}, {65, 200}, {100, 130}, {127, 257},
	{960, 1024}, {1000, 1024}, {1022, 1023}, {1023, 1023}, {1023, 1024}, {1024, 1024},
}

// outside are ints that are no blocks of any pool, near and far, and such as are blocks in fewer bits.
var outside = []int{
	-1, -2, -63, -64, -65, -1024, -4096, math.MinInt32, math.MinInt32 - 1, -1 << 32, -1<<32 + 5, math.MinInt + 5, math.MinInt + 1, math.MinInt,
	1024, 1025, 1087, 1088, 2048, 4095, 4096, 4097, 1<<16 + 5, math.MaxInt32, 1 << 31, 1<<32 - 1, 1 << 32, 1<<32 + 5, math.MaxInt - 1, math.MaxInt,
}

// near answers those that are no blocks of a pool, though of another one they may be, and others that are none's.
func near(s span) []int {
	l := slices.Clone(outside)
	for _, b := range []int{0, 1, s.from - 65, s.from - 64, s.from - 2, s.from - 1, s.to, s.to + 1, s.to + 64, s.to + 65, 1023} {
		if b < s.from || b >= s.to {
			l = append(l, b)
		}
	}
	return l
}

func made(t *testing.T, from, to int) *pool.Pool {
	t.Helper()
	p, e := pool.Of(from, to)
	if e != api.OK || p == nil {
		t.Fatalf("Of(%d, %d): %v, %d", from, to, p, e)
	}
	return p
}

// with answers a pool of which l is taken.
func with(t *testing.T, s span, l []int) *pool.Pool {
	t.Helper()
	p := made(t, s.from, s.to)
	if e := p.Mark(l); e != api.OK {
		t.Fatalf("of %v, Mark(%v): %d", s, l, e)
	}
	return p
}

// all answers all the blocks of a pool, rising.
func all(s span) []int {
	var l []int
	for b := s.from; b < s.to; b++ {
		l = append(l, b)
	}
	return l
}

// every answers each nth block of a pool, from its kth on.
func every(s span, n, k int) []int {
	var l []int
	for b := s.from + k; b < s.to; b += n {
		l = append(l, b)
	}
	return l
}

// without answers what of l is not in gone.
func without(l, gone []int) []int {
	out := map[int]bool{}
	for _, b := range gone {
		out[b] = true
	}
	var rest []int
	for _, b := range l {
		if !out[b] {
			rest = append(rest, b)
		}
	}
	return rest
}

// holds holds all that a pool tells against those that are taken.
func holds(t *testing.T, p *pool.Pool, s span, taken []int) {
	t.Helper()
	rising := slices.Sorted(slices.Values(taken))
	if got := p.Taken(); !slices.Equal(got, rising) {
		t.Fatalf("of %v, Taken: %v, want %v", s, got, rising)
	}
	if got := p.Free(); got != s.to-s.from-len(taken) {
		t.Fatalf("of %v with %v, Free: %d, want %d", s, rising, got, s.to-s.from-len(taken))
	}
	there := map[int]bool{}
	for _, b := range taken {
		there[b] = true
	}
	for b := -2; b < api.MaxBlocks+2; b++ {
		if p.Has(b) != there[b] {
			t.Fatalf("of %v with %v, Has(%d): %t", s, rising, b, !there[b])
		}
	}
	for _, b := range outside {
		if p.Has(b) {
			t.Fatalf("of %v, Has(%d)", s, b)
		}
	}
}

// takes takes n blocks, which are to be these.
func takes(t *testing.T, p *pool.Pool, n int, want []int) {
	t.Helper()
	if got, e := p.Take(n); e != api.OK || !slices.Equal(got, want) {
		t.Fatalf("Take(%d): %v, %d, want %v", n, got, e, want)
	}
}

// takesNone asks for n blocks, which is refused.
func takesNone(t *testing.T, p *pool.Pool, n int, want api.Errno) {
	t.Helper()
	if got, e := p.Take(n); e != want || len(got) != 0 {
		t.Fatalf("Take(%d): %v, %d, want error %d", n, got, e, want)
	}
}

// marks marks l, and holds what that is answered.
func marks(t *testing.T, p *pool.Pool, l []int, want api.Errno) {
	t.Helper()
	was := slices.Clone(l)
	if e := p.Mark(l); e != want {
		t.Fatalf("Mark(%v): %d, want %d", l, e, want)
	}
	if !slices.Equal(l, was) {
		t.Fatalf("Mark(%v) made %v of what was handed in", was, l)
	}
}

// gives gives l back, and holds what that is answered.
func gives(t *testing.T, p *pool.Pool, l []int, want api.Errno) {
	t.Helper()
	was := slices.Clone(l)
	if e := p.Give(l); e != want {
		t.Fatalf("Give(%v): %d, want %d", l, e, want)
	}
	if !slices.Equal(l, was) {
		t.Fatalf("Give(%v) made %v of what was handed in", was, l)
	}
}

// 11.1: the chapter's example, and what may be done behind it.
func TestExample(t *testing.T) {
	s := span{3, 9}
	p := made(t, 3, 9)
	holds(t, p, s, nil)
	takes(t, p, 2, []int{3, 4})
	holds(t, p, s, []int{3, 4})
	gives(t, p, []int{3}, api.OK)
	holds(t, p, s, []int{4})
	takes(t, p, 2, []int{3, 5})
	marks(t, p, []int{8, 6}, api.OK)
	holds(t, p, s, []int{3, 4, 5, 6, 8})
	c := p.Clone()
	takes(t, c, 1, []int{7})
	gives(t, p, []int{5}, api.OK)
	holds(t, c, s, []int{3, 4, 5, 6, 7, 8})
	holds(t, p, s, []int{3, 4, 6, 8})
}

// 11.1: all are free in a pool of any blocks.
func TestOf(t *testing.T) {
	for _, s := range spans {
		holds(t, made(t, s.from, s.to), s, nil)
	}
	for at := range api.MaxBlocks + 1 {
		for _, s := range []span{{0, at}, {at, at}, {at, api.MaxBlocks}} {
			p := made(t, s.from, s.to)
			if p.Free() != s.to-s.from || len(p.Taken()) != 0 {
				t.Fatalf("Of(%d, %d): Free %d, Taken %v", s.from, s.to, p.Free(), p.Taken())
			}
			takes(t, p, p.Free(), all(s))
		}
	}
}

// 11.1: ErrArg, and no pool, where from is below 0, or past to, or to is past MaxBlocks.
func TestOfWrong(t *testing.T) {
	wrong := []span{
		{-1, -1}, {-1, 0}, {-1, 5}, {0, -1}, {1, 0}, {3, 2}, {9, 3}, {64, 63}, {65, 64}, {1024, 1023}, {1024, 0}, {1024, -1},
		{0, 1025}, {5, 1025}, {1024, 1025}, {1025, 1025}, {1025, 1024}, {1025, 0}, {-1, 1025}, {-1, 1024},
	}
	for _, far := range outside {
		wrong = append(wrong, span{far, 0}, span{far, 9}, span{far, 1024})
		if far < 0 {
			wrong = append(wrong, span{0, far}, span{3, far}, span{1024, far})
		}
		if far > api.MaxBlocks {
			wrong = append(wrong, span{0, far}, span{3, far}, span{1024, far})
		}
		for _, other := range outside {
			if far < 0 || far > api.MaxBlocks || other < 0 || other > api.MaxBlocks {
				wrong = append(wrong, span{far, other})
			}
		}
	}
	for _, s := range wrong {
		if s.from >= 0 && s.from <= s.to && s.to <= 1024 {
			continue
		}
		if p, e := pool.Of(s.from, s.to); p != nil || e != api.ErrArg {
			t.Errorf("Of(%d, %d): %v, %d, want ErrArg", s.from, s.to, p, e)
		}
	}
}

// 11.1: what is taken are the least free ones, rising, of any number of them.
func TestTake(t *testing.T) {
	for _, s := range spans {
		blocks := all(s)
		for _, n := range []int{0, 1, 2, 3, 63, 64, 65, len(blocks) - 1, len(blocks)} {
			if n < 0 || n > len(blocks) {
				continue
			}
			p := made(t, s.from, s.to)
			takes(t, p, n, blocks[:n])
			holds(t, p, s, blocks[:n])
			takes(t, p, 0, nil)
			takesNone(t, p, len(blocks)-n+1, api.ErrFull)
			holds(t, p, s, blocks[:n])
			takes(t, p, len(blocks)-n, blocks[n:])
			holds(t, p, s, blocks)
			takes(t, p, 0, nil)
			takesNone(t, p, 1, api.ErrFull)
			holds(t, p, s, blocks)
		}
	}
}

// 11.1: one by one, each is taken once, in order.
func TestTakeOnes(t *testing.T) {
	for _, s := range spans {
		p := made(t, s.from, s.to)
		for _, b := range all(s) {
			takes(t, p, 1, []int{b})
		}
		takesNone(t, p, 1, api.ErrFull)
		holds(t, p, s, all(s))
	}
}

// 11.1: ErrArg of less than 0, also where none is free; ErrFull of more than are free, also of the greatest.
func TestTakeWrong(t *testing.T) {
	for _, s := range spans {
		blocks := all(s)
		for _, taken := range [][]int{nil, every(s, 2, 0), blocks} {
			p := with(t, s, taken)
			free := len(blocks) - len(taken)
			for _, n := range outside {
				if n < 0 {
					takesNone(t, p, n, api.ErrArg)
				} else if n > free {
					takesNone(t, p, n, api.ErrFull)
				}
			}
			takesNone(t, p, free+1, api.ErrFull)
			takesNone(t, p, free+64, api.ErrFull)
			holds(t, p, s, taken)
			takes(t, p, free, without(blocks, taken))
		}
	}
}

// 11.1: behind a Give in the midst the least free ones are those, and others behind them.
func TestTakeBehindGive(t *testing.T) {
	for _, s := range spans {
		blocks := all(s)
		for _, gone := range [][]int{every(s, 2, 0), every(s, 2, 1), every(s, 7, 3), every(s, 64, 0), every(s, 64, 63), every(s, 100, 50)} {
			for _, n := range []int{0, 1, len(gone) / 2, len(gone)} {
				if n > len(gone) {
					continue
				}
				half := len(blocks) / 2
				p := made(t, s.from, s.to)
				takes(t, p, half, blocks[:half])
				back := slices.DeleteFunc(slices.Clone(gone), func(b int) bool { return b >= s.from+half })
				gives(t, p, back, api.OK)
				free := append(slices.Clone(back), blocks[half:]...)
				holds(t, p, s, without(blocks, free))
				takes(t, p, n, free[:n])
				holds(t, p, s, without(blocks, free[n:]))
				takes(t, p, len(free)-n, free[n:])
				takesNone(t, p, 1, api.ErrFull)
			}
		}
	}
}

// orders are the ways in which a list may stand: rising, falling, and shuffled.
func orders(l []int, r *rand.Rand) [][]int {
	falling, shuffled := slices.Clone(l), slices.Clone(l)
	slices.Reverse(falling)
	r.Shuffle(len(shuffled), func(i, k int) { shuffled[i], shuffled[k] = shuffled[k], shuffled[i] })
	return [][]int{l, falling, shuffled}
}

// 11.1: blocks are marked, and given back, in any order: none, one, some, all.
func TestMarkAndGive(t *testing.T) {
	r := rand.New(rand.NewSource(11))
	for _, s := range spans {
		blocks := all(s)
		lists := [][]int{nil, {}, blocks, every(s, 2, 0), every(s, 2, 1), every(s, 64, 0), every(s, 64, 63), every(s, 5, 2)}
		for _, l := range lists {
			for _, some := range orders(l, r) {
				p := made(t, s.from, s.to)
				marks(t, p, some, api.OK)
				holds(t, p, s, some)
				takes(t, p, p.Free(), without(blocks, some))
				holds(t, p, s, blocks)
				gives(t, p, some, api.OK)
				holds(t, p, s, without(blocks, some))
				takes(t, p, len(some), l)
				holds(t, p, s, blocks)
			}
		}
	}
}

// 11.1: each block alone is marked once, and given back once.
func TestOneBlock(t *testing.T) {
	for _, s := range spans {
		p := made(t, s.from, s.to)
		for _, b := range all(s) {
			gives(t, p, []int{b}, api.ErrNone)
			marks(t, p, []int{b}, api.OK)
			marks(t, p, []int{b}, api.ErrTwice)
			if !p.Has(b) || p.Free() != s.to-s.from-1 || !slices.Equal(p.Taken(), []int{b}) {
				t.Fatalf("of %v, with %d: Free %d, Taken %v", s, b, p.Free(), p.Taken())
			}
			gives(t, p, []int{b}, api.OK)
			gives(t, p, []int{b}, api.ErrNone)
			if p.Has(b) || p.Free() != s.to-s.from || len(p.Taken()) != 0 {
				t.Fatalf("of %v, with %d given back: Free %d, Taken %v", s, b, p.Free(), p.Taken())
			}
		}
	}
}

// 11.1: no list that has a block of which there is none is marked or given, wherever it stands, and whatever else is wrong with it.
func TestNoBlock(t *testing.T) {
	for _, s := range spans {
		blocks := all(s)
		for _, taken := range [][]int{nil, every(s, 2, 0), blocks} {
			free := without(blocks, taken)
			p := with(t, s, taken)
			var lists [][]int
			for _, b := range near(s) {
				lists = append(lists, []int{b}, []int{b, b})
				for _, some := range [][]int{taken, free} {
					if len(some) == 0 {
						continue
					}
					one := some[len(some)/2]
					lists = append(lists, []int{one, b}, []int{b, one}, []int{one, one, b}, []int{b, one, one}, []int{one, b, one})
				}
				if len(taken) > 0 && len(free) > 0 {
					lists = append(lists, []int{taken[0], free[0], b}, []int{b, free[0], taken[0]}, []int{free[0], b, taken[0]})
				}
			}
			for _, l := range lists {
				marks(t, p, l, api.ErrBlock)
				gives(t, p, l, api.ErrBlock)
			}
			holds(t, p, s, taken)
		}
	}
}

// 11.1: ErrBlock behind many that are right, or wrong in another way, and ahead of them.
func TestNoBlockAmongMany(t *testing.T) {
	for _, s := range spans {
		blocks := all(s)
		for _, b := range near(s) {
			for _, at := range []int{0, len(blocks) / 2, len(blocks)} {
				l := slices.Insert(slices.Clone(blocks), at, b)
				p := made(t, s.from, s.to)
				marks(t, p, l, api.ErrBlock)
				gives(t, p, l, api.ErrBlock)
				if p.Free() != len(blocks) {
					t.Fatalf("of %v, %d is refused among all, and then %d are free", s, b, p.Free())
				}
				marks(t, p, blocks, api.OK)
				marks(t, p, l, api.ErrBlock)
				gives(t, p, l, api.ErrBlock)
				if p.Free() != 0 {
					t.Fatalf("of %v, %d is refused among all, and then %d are free", s, b, p.Free())
				}
			}
		}
	}
}

// 11.1: ErrTwice of one that is taken, or stands twice in the list, wherever it stands, and nothing is taken by it.
func TestMarkTwice(t *testing.T) {
	for _, s := range spans {
		blocks := all(s)
		if len(blocks) < 3 {
			continue
		}
		for _, one := range []int{0, len(blocks) / 2, len(blocks) - 1} {
			b := blocks[one]
			rest := without(blocks, []int{b})
			for _, at := range []int{0, len(rest) / 2, len(rest)} {
				p := with(t, s, []int{b})
				marks(t, p, slices.Insert(slices.Clone(rest), at, b), api.ErrTwice)
				holds(t, p, s, []int{b})
				p = made(t, s.from, s.to)
				for _, other := range []int{0, len(rest) / 2, len(rest) + 1} {
					twice := slices.Insert(slices.Clone(rest), at, b)
					marks(t, p, slices.Insert(twice, min(other, len(twice)), b), api.ErrTwice)
					holds(t, p, s, nil)
				}
			}
		}
		marks(t, with(t, s, blocks), blocks, api.ErrTwice)
		marks(t, with(t, s, blocks), blocks[1:2], api.ErrTwice)
	}
}

// 11.1: ErrNone of one that is free, or stands twice in the list, wherever it stands, and nothing is given back by it.
func TestGiveNone(t *testing.T) {
	for _, s := range spans {
		blocks := all(s)
		if len(blocks) < 3 {
			continue
		}
		for _, one := range []int{0, len(blocks) / 2, len(blocks) - 1} {
			b := blocks[one]
			rest := without(blocks, []int{b})
			for _, at := range []int{0, len(rest) / 2, len(rest)} {
				p := with(t, s, rest)
				gives(t, p, slices.Insert(slices.Clone(rest), at, b), api.ErrNone)
				holds(t, p, s, rest)
				p = with(t, s, blocks)
				for _, other := range []int{0, len(rest) / 2, len(rest) + 1} {
					twice := slices.Insert(slices.Clone(rest), at, b)
					gives(t, p, slices.Insert(twice, min(other, len(twice)), b), api.ErrNone)
					holds(t, p, s, blocks)
				}
			}
		}
		gives(t, made(t, s.from, s.to), blocks, api.ErrNone)
		gives(t, made(t, s.from, s.to), blocks[1:2], api.ErrNone)
	}
}
