package dag_test

import (
	"slices"
	"testing"

	"chantry/api"
	"chantry/dag"
)

const most = 4096

// filled answers a graph of so many nodes: of each the numbers of its predecessors are told.
func filled(t *testing.T, many int, preds func(n int) []int) *dag.Dag {
	t.Helper()
	d := dag.Empty()
	for n := range many {
		var l []string
		for _, k := range preds(n) {
			l = append(l, numbered(k))
		}
		if e := d.Add(numbered(n), l); e != api.OK {
			t.Fatalf("node %d: %d", n, e)
		}
	}
	return d
}

// upTo answers the IDs of these numbers.
func upTo(from, to int) []string {
	var l []string
	for n := from; n < to; n++ {
		l = append(l, numbered(n))
	}
	return l
}

// isFull holds that nothing more may be added, that other faults are told ahead of that, and that all is as it was.
func isFull(t *testing.T, d *dag.Dag) {
	t.Helper()
	order, heads, kids := d.Order(), d.Heads(), d.Kids(numbered(0))
	next := numbered(most)
	for range 3 {
		answers(t, "Add to a full graph", d.Add(next, nil), api.ErrFull)
		answers(t, "Add to a full graph", d.Add(of(0), []string{}), api.ErrFull)
		answers(t, "Add to a full graph", d.Add(next, []string{numbered(0)}), api.ErrFull)
		answers(t, "Add to a full graph", d.Add(next, upTo(0, most)), api.ErrFull)
		answers(t, "Add to a full graph", d.Add(next[:31], nil), api.ErrArg)
		answers(t, "Add to a full graph", d.Add(next, []string{numbered(1), numbered(0)}), api.ErrArg)
		answers(t, "Add to a full graph", d.Add(numbered(most-1), nil), api.ErrTwice)
		answers(t, "Add to a full graph", d.Add(numbered(most-1), []string{next}), api.ErrTwice)
		answers(t, "Add to a full graph", d.Add(next, []string{numbered(0), of(200)}), api.ErrPred)
		answers(t, "Add to a full graph", d.Add(next, []string{next}), api.ErrPred)
	}
	if d.Len() != most || d.Has(next) || d.Has(of(0)) || d.Depth(next) != 0 || d.Ahead(numbered(0), next) {
		t.Fatal("what was refused is there")
	}
	holdsList(t, "Order", d.Order(), order)
	holdsList(t, "Heads", d.Heads(), heads)
	holdsList(t, "Kids", d.Kids(numbered(0)), kids)
	holdsList(t, "Past", d.Past([]string{next, of(0)}), nil)
}

// 16.1: MaxNodes nodes, and one more; of a clone likewise, and of one of which one node less was cloned.
func TestFull(t *testing.T) {
	none := func(int) []int { return nil }
	d := filled(t, most, none)
	holdsList(t, "Order", d.Order(), upTo(0, most))
	holdsList(t, "Heads", d.Heads(), upTo(0, most))
	isFull(t, d)
	isFull(t, d.Clone())

	last := filled(t, most-1, none)
	c := last.Clone()
	answers(t, "the last Add", last.Add(numbered(most-1), upTo(0, most-1)), api.OK)
	isFull(t, last)
	holdsList(t, "Heads", last.Heads(), upTo(most-1, most))
	holdsList(t, "Preds", last.Preds(numbered(most-1)), upTo(0, most-1))
	if c.Len() != most-1 || c.Has(numbered(most-1)) {
		t.Fatal("the clone has what was added to the other")
	}
	answers(t, "the last Add to the clone", c.Add(numbered(most-1), nil), api.OK)
	isFull(t, c)
	holdsList(t, "Heads of the clone", c.Heads(), upTo(0, most))
}

// 16.2: a chain of MaxNodes nodes, asked from its end, and from within.
func TestLongChain(t *testing.T) {
	d := filled(t, most, func(n int) []int {
		if n == 0 {
			return nil
		}
		return []int{n - 1}
	})
	first, last := numbered(0), numbered(most-1)
	if d.Depth(last) != most || d.Depth(first) != 1 {
		t.Errorf("Depth: %d, %d", d.Depth(last), d.Depth(first))
	}
	if !d.Ahead(first, last) || d.Ahead(last, first) || d.Ahead(last, last) || d.Ahead(first, first) {
		t.Error("Ahead of the ends")
	}
	for _, n := range []int{1, 2, 1000, most - 3, most - 2} {
		mid := numbered(n)
		if !d.Ahead(first, mid) || !d.Ahead(mid, last) || d.Ahead(last, mid) || d.Ahead(mid, first) || d.Ahead(mid, mid) || d.Depth(mid) != n+1 {
			t.Errorf("Ahead, or Depth, of %d", n)
		}
		holdsList(t, "Past of one within", d.Past([]string{mid}), upTo(0, n+1))
	}
	holdsList(t, "Past of the end", d.Past([]string{last}), upTo(0, most))
	holdsList(t, "Past of all", d.Past(upTo(0, most)), upTo(0, most))
	holdsList(t, "Order", d.Order(), upTo(0, most))
	holdsList(t, "Heads", d.Heads(), []string{last})
	isFull(t, d)
}

// 16.2: kids that came in falling order, and many of them, are told rising.
func TestManyKids(t *testing.T) {
	d, root := dag.Empty(), numbered(0)
	answers(t, "Add", d.Add(root, nil), api.OK)
	for n := most - 1; n > 0; n-- {
		answers(t, "Add", d.Add(numbered(n), []string{root}), api.OK)
	}
	holdsList(t, "Kids", d.Kids(root), upTo(1, most))
	holdsList(t, "Heads", d.Heads(), upTo(1, most))
	holdsList(t, "Order", d.Order(), upTo(0, most))
	isFull(t, d)
}

// 16.2: where there are more ways between two than can be gone, each call ends nevertheless.
func TestManyWays(t *testing.T) {
	const wide = 8
	d := filled(t, most-1, func(n int) []int {
		var l []int
		for k := n/wide*wide - wide; k >= 0 && k < n/wide*wide; k++ {
			l = append(l, k)
		}
		return l
	})
	answers(t, "Add of one apart", d.Add(numbered(most-1), nil), api.OK)
	end := numbered(most - 2)
	for n := range most - 1 {
		if n%wide != 3 && n > 100 {
			continue
		}
		id := numbered(n)
		if want := n/wide < (most-2)/wide; d.Ahead(id, end) != want || d.Ahead(end, id) || d.Ahead(numbered(most-1), id) || d.Ahead(id, numbered(most-1)) {
			t.Fatalf("Ahead of %d: not %t", n, want)
		}
		if d.Depth(id) != n/wide+1 {
			t.Fatalf("Depth of %d: %d", n, d.Depth(id))
		}
	}
	past := append(upTo(0, (most-2)/wide*wide), end)
	holdsList(t, "Past", d.Past([]string{end}), past)
	holdsList(t, "Past of two", d.Past([]string{end, numbered(most - 1), end}), append(slices.Clone(past), numbered(most-1)))
	isFull(t, d)
}

// 16.2: each behind all that came ahead of it.
func TestAllBehindAll(t *testing.T) {
	const many = 600
	d := filled(t, many, func(n int) []int {
		var l []int
		for k := range n {
			l = append(l, k)
		}
		return l
	})
	for n := range many {
		if d.Depth(numbered(n)) != n+1 || d.Ahead(numbered(n), numbered(many-1)) != (n < many-1) || d.Ahead(numbered(n), numbered(0)) {
			t.Fatalf("node %d", n)
		}
	}
	holdsList(t, "Past", d.Past([]string{numbered(many - 1)}), upTo(0, many))
	holdsList(t, "Kids", d.Kids(numbered(5)), upTo(6, many))
	holdsList(t, "Preds", d.Preds(numbered(many-1)), upTo(0, many-1))
}
