package cell

import (
	"bytes"
	"iter"
	"slices"

	"chantry/api"
)

const (
	firstPlace = 1 // block 0 is no place: as a Next it says that nothing comes behind
	noNext     = 0
)

// Need answers how many cells a text of so many bytes takes.
func Need(size int) int {
	if size <= 0 {
		return 0
	}
	return (size-1)/api.PerCell + 1
}

// Cut answers the cells of a text whose blocks are places: ErrLong of too long a text, ErrArg of an empty one, of places that are not its blocks, or if a cell may not be.
func Cut(owner int, places []int, text []byte) ([]api.Cell, api.Errno) {
	switch {
	case len(text) > api.MaxBytes:
		return nil, api.ErrLong
	case len(text) == 0 || len(places) != Need(len(text)) || slices.ContainsFunc(places, isNoPlace):
		return nil, api.ErrArg
	}
	nexts := slices.Concat(places[1:], []int{noNext})
	l := make([]api.Cell, 0, len(places))
	for i, part := range parts(text) {
		c := api.Cell{Owner: owner, Number: i, Next: nexts[i], Data: bytes.Clone(part)}
		if !mayBe(c) {
			return nil, api.ErrArg
		}
		l = append(l, c)
	}
	return l, api.OK
}

// Join answers the text of which these are the cells, if they are one's.
func Join(l []api.Cell) ([]byte, bool) {
	var text []byte
	for i, c := range l {
		if !mayBe(c) || c.Owner != l[0].Owner || c.Number != i || !fits(c, i == len(l)-1) {
			return nil, false
		}
		text = append(text, c.Data...)
	}
	return text, len(l) > 0
}

// parts hands out a text part by part, each with its place: all of them as great as a cell can hold, but the last one.
func parts(text []byte) iter.Seq2[int, []byte] {
	return func(yield func(int, []byte) bool) {
		for i := range Need(len(text)) {
			begin := i * api.PerCell
			if !yield(i, text[begin:min(begin+api.PerCell, len(text))]) {
				return
			}
		}
	}
}

func isNoPlace(n int) bool {
	return !within(n, firstPlace, maxNext)
}

// fits answers whether a cell that may be can stand at a text's end, or ahead of that.
func fits(c api.Cell, last bool) bool {
	if last {
		return c.Next == noNext
	}
	return c.Next != noNext && len(c.Data) == api.PerCell
}
