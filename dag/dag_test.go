package dag_test

import (
	"math/rand"
	"slices"
	"testing"

	"chantry/api"
	"chantry/dag"
)

func answers(t *testing.T, what string, got, want api.Errno) {
	t.Helper()
	if got != want {
		t.Fatalf("%s: %d, want %d", what, got, want)
	}
}

// 16.1, 16.2: the chapter's example, to the letter.
func TestExample(t *testing.T) {
	d := dag.Empty()
	a, b, c := of(1), of(2), of(3)
	answers(t, "Add(a)", d.Add(a, nil), api.OK)
	answers(t, "Add(b)", d.Add(b, []string{a}), api.OK)
	answers(t, "Add(c)", d.Add(c, []string{a}), api.OK)
	holdsList(t, "Heads", d.Heads(), []string{b, c})
	holdsList(t, "Past of b", d.Past([]string{b}), []string{a, b})
	holdsList(t, "Kids of a", d.Kids(a), []string{b, c})
	holdsList(t, "Kids of b", d.Kids(b), nil)
	holdsList(t, "Preds of a", d.Preds(a), nil)
	holdsList(t, "Preds of c", d.Preds(c), []string{a})
	holdsList(t, "Order", d.Order(), []string{a, b, c})
	if !d.Ahead(a, b) || !d.Ahead(a, c) || d.Ahead(b, a) || d.Ahead(b, c) || d.Ahead(c, b) || d.Ahead(b, b) {
		t.Error("Ahead")
	}
	if d.Len() != 3 || d.Depth(a) != 1 || d.Depth(b) != 2 || d.Depth(c) != 2 {
		t.Error("Len, or Depth")
	}
}

// 16.2: Order goes by depths, whatever the IDs, or the order in which they came; of one depth by the bytes of the IDs.
func TestOrder(t *testing.T) {
	d := dag.Empty()
	for _, l := range []link{
		{of(200), nil}, {of(128), nil}, {of(127), nil}, {of(9), []string{of(200)}}, {of(255), []string{of(9)}}, {of(1), []string{of(9)}},
		{of(0), []string{of(1), of(255)}}, {of(201), nil}, {of(3), []string{of(127), of(128)}}, {of(202), []string{of(0), of(201)}}, {of(50), []string{of(201), of(202)}},
	} {
		answers(t, "Add", d.Add(l.id, l.preds), api.OK)
	}
	holdsList(t, "Order", d.Order(), []string{of(127), of(128), of(200), of(201), of(3), of(9), of(1), of(255), of(0), of(202), of(50)})
	for i, depth := range map[byte]int{200: 1, 201: 1, 3: 2, 9: 2, 1: 3, 255: 3, 0: 4, 202: 5, 50: 6} {
		if d.Depth(of(i)) != depth {
			t.Errorf("Depth of %d: %d, want %d", i, d.Depth(of(i)), depth)
		}
	}
}

// 16.1, 16.2: an empty graph.
func TestEmpty(t *testing.T) {
	d, m := dag.Empty(), blank()
	holds(t, d, m, true)
	holds(t, d.Clone(), m, true)
	holdsList(t, "Past", d.Past([]string{of(1), "", of(1), "x"}), nil)
	if d.Ahead("", "") || d.Ahead(of(1), of(1)) || d.Has("") {
		t.Error("what is not there is ahead, or there")
	}
	for _, preds := range [][]string{{of(1)}, {of(2)}, {of(1), of(2)}} {
		answers(t, "Add behind what is not there", d.Add(of(1), preds), api.ErrPred)
		holds(t, d, m, true)
	}
	other := dag.Empty()
	adds(t, d, m, of(1), []string{})
	holds(t, d, m, true)
	holds(t, other, blank(), true)
}

// 16.1, 16.2: of graphs of many shapes all that is told, behind each Add.
func TestShapes(t *testing.T) {
	eachGraph(t, func(t *testing.T, links []link) {
		d, m := dag.Empty(), blank()
		for _, l := range links {
			adds(t, d, m, l.id, l.preds)
			holds(t, d, m, false)
		}
		holds(t, d, m, true)
		holds(t, d.Clone(), m, false)
	})
}

// 16.1, 16.2: all graphs of four nodes, under IDs of any order, and each Past of any list of up to three of theirs.
func TestAllSmallGraphs(t *testing.T) {
	var orders [][]string
	for i := range 256 {
		order := []string{of(byte(i & 3)), of(byte(i >> 2 & 3)), of(byte(i >> 4 & 3)), of(byte(i >> 6))}
		if sorted := slices.Sorted(slices.Values(order)); len(slices.Compact(sorted)) == 4 {
			orders = append(orders, order)
		}
	}
	for bits := range 64 {
		place := map[[2]int]int{{1, 0}: 1, {2, 0}: 2, {2, 1}: 4, {3, 0}: 8, {3, 1}: 16, {3, 2}: 32}
		s := byRule(4, func(n, p int) bool { return bits&place[[2]int{n, p}] != 0 })
		for _, order := range orders {
			d, m := grown(t, s.named(order))
			holds(t, d, m, true)
			for i := range 125 {
				list := slices.DeleteFunc([]string{of(byte(i % 5)), of(byte(i / 5 % 5)), of(byte(i / 25))}, func(id string) bool { return id == of(4) })
				holdsList(t, "Past", d.Past(list), m.past(list))
			}
		}
	}
}

// 16.1: what is asked of an Add, and in which order; what is refused changes nothing.
func TestAddRefused(t *testing.T) {
	a, b, c, gone := of(10), of(20), of(30), of(25)
	d, m := grown(t, []link{{a, nil}, {c, []string{a}}, {b, []string{a}}})
	right := of(40)
	refuses := func(id string, preds []string, want api.Errno) {
		t.Helper()
		answers(t, "Add("+shown([]string{id})+", "+shown(preds)+")", d.Add(id, preds), want)
		holds(t, d, m, false)
	}
	noRise := [][]string{{b, a}, {a, a}, {c, b, a}, {a, c, b}, {a, b, b}, {gone, gone}, {gone, a}, {c, gone}, {right, right}, {right, a}, {of(128), of(127)}}
	for _, wrong := range wrongIDs() {
		noRise = append(noRise, []string{wrong}, []string{a, wrong}, []string{wrong, c}, []string{a, wrong, c}, []string{gone, wrong}, []string{a, b, c, wrong}, []string{wrong, wrong})
		for _, preds := range [][]string{nil, {}, {a}, {a, b, c}, {gone}, {wrong}, {b, a}, {a, a}} {
			refuses(wrong, preds, api.ErrArg)
		}
	}
	for _, preds := range noRise {
		refuses(right, preds, api.ErrArg)
		refuses(a, preds, api.ErrArg)
		refuses(gone, preds, api.ErrArg)
	}
	for _, id := range []string{a, b, c} {
		for _, preds := range [][]string{nil, {}, m.preds[id], {a}, {b}, {c}, {a, b, c}, {gone}, {a, gone}, {gone, c}, {right}} {
			refuses(id, preds, api.ErrTwice)
		}
	}
	for _, preds := range [][]string{{gone}, {right}, {of(0)}, {of(255)}, {a, gone}, {gone, c}, {a, gone, c}, {a, b, c, of(31)}, {of(9), a, b, c}, {a, right}} {
		refuses(right, preds, api.ErrPred)
	}
	adds(t, d, m, right, []string{a, b, c})
	holds(t, d, m, true)
	refuses(right, []string{a, b, c}, api.ErrTwice)
	refuses(right, []string{right}, api.ErrTwice)
}

// 16.1: Adds of all kinds, among them such as are refused, one behind the other.
func TestManyAdds(t *testing.T) {
	for seed := range 30 {
		r := rand.New(rand.NewSource(int64(161 + seed)))
		pool := append(wrongIDs()[:3], namings(30)[3]...)
		d, m := dag.Empty(), blank()
		for range 200 {
			var preds []string
			for range r.Intn(5) {
				from := m.all
				if len(from) == 0 || r.Intn(15) == 0 {
					from = pool
				}
				preds = append(preds, from[r.Intn(len(from))])
			}
			if r.Intn(10) > 0 {
				slices.Sort(preds)
				preds = slices.Compact(preds)
			}
			adds(t, d, m, pool[r.Intn(len(pool))], preds)
		}
		holds(t, d, m, true)
		if len(m.all) < 10 {
			t.Fatalf("too few were added: %d", len(m.all))
		}
	}
}

// 16.2: Past of lists of all kinds: of what is not there, of one more than once, in any order.
func TestPast(t *testing.T) {
	a, b, c, e, f := of(1), of(2), of(3), of(4), of(0)
	d, _ := grown(t, []link{{a, nil}, {b, []string{a}}, {c, []string{b}}, {e, []string{a}}, {f, nil}})
	for _, x := range []struct{ l, want []string }{
		{nil, nil},
		{[]string{}, nil},
		{[]string{of(9)}, nil},
		{[]string{"", "x", a[:31], a + "\x01"}, nil},
		{[]string{f}, []string{f}},
		{[]string{a}, []string{a}},
		{[]string{a, a}, []string{a}},
		{[]string{c}, []string{a, b, c}},
		{[]string{c, c, c}, []string{a, b, c}},
		{[]string{c, a}, []string{a, b, c}},
		{[]string{a, c}, []string{a, b, c}},
		{[]string{e, b}, []string{a, b, e}},
		{[]string{b, e}, []string{a, b, e}},
		{[]string{c, of(9), "", f, c}, []string{f, a, b, c}},
		{[]string{of(9), e}, []string{a, e}},
		{[]string{e, c, f, b, a}, []string{f, a, b, c, e}},
	} {
		holdsList(t, "Past of "+shown(x.l), d.Past(x.l), x.want)
	}
	eachGraph(t, func(t *testing.T, links []link) {
		d, m := grown(t, links)
		r := rand.New(rand.NewSource(162))
		from := append(append(wrongIDs(), of(3)), m.all...)
		for range 20 {
			var l []string
			for range r.Intn(6) {
				l = append(l, from[r.Intn(len(from))])
			}
			holdsList(t, "Past of "+shown(l), d.Past(l), m.past(l))
		}
	})
}

// 16.3: Order has each behind its predecessors, and is all; nothing is ahead of itself; what is ahead of something ahead is ahead; Past has the predecessors of all it has.
func TestFollows(t *testing.T) {
	eachGraph(t, func(t *testing.T, links []link) {
		d, _ := grown(t, links)
		all := d.Order()
		for i, id := range all {
			for _, pred := range d.Preds(id) {
				if k := slices.Index(all, pred); k < 0 || k >= i || d.Depth(pred) >= d.Depth(id) || !d.Ahead(pred, id) || !slices.Contains(d.Kids(pred), id) {
					t.Fatalf("%x is not behind its predecessor %x", id, pred)
				}
			}
			if d.Ahead(id, id) {
				t.Fatalf("%x is ahead of itself", id)
			}
			past := d.Past([]string{id})
			for _, x := range all {
				if slices.Contains(past, x) != (x == id || d.Ahead(x, id)) {
					t.Fatalf("%x: ahead of %x, or past it, but not both", x, id)
				}
				for _, y := range all {
					if d.Ahead(x, y) && d.Ahead(y, id) && !d.Ahead(x, id) {
						t.Fatalf("%x, %x, %x: ahead of what is ahead, but not ahead", x, y, id)
					}
				}
				both := d.Past([]string{id, x})
				for _, y := range both {
					for _, pred := range d.Preds(y) {
						if !slices.Contains(both, pred) {
							t.Fatalf("Past of %x and %x has not %x", id, x, pred)
						}
					}
				}
			}
		}
		if len(all) != len(links) || len(all) != d.Len() {
			t.Fatalf("Order has %d, of %d", len(all), len(links))
		}
		holdsList(t, "Past of the heads", d.Past(d.Heads()), slices.Sorted(slices.Values(all)))
	})
}

// R5: the order in which they came, each behind its predecessors, changes nothing.
func TestAnyOrder(t *testing.T) {
	eachGraph(t, func(t *testing.T, links []link) {
		_, m := grown(t, links)
		for seed := range 5 {
			r := rand.New(rand.NewSource(int64(163 + seed)))
			wait, d := slices.Clone(links), dag.Empty()
			for len(wait) > 0 {
				i := r.Intn(len(wait))
				if d.Add(wait[i].id, wait[i].preds) == api.OK {
					wait = slices.Delete(wait, i, i+1)
				}
			}
			holds(t, d, m, false)
		}
	})
}

// R1: on nil nothing is there, and nothing is done.
func TestNil(t *testing.T) {
	var d *dag.Dag
	for _, id := range append(wrongIDs(), of(1)) {
		for _, l := range [][]string{nil, {}, {id}, {of(2), of(1)}, {of(1), of(2)}} {
			answers(t, "Add", d.Add(id, l), api.ErrClosed)
			holdsList(t, "Past", d.Past(l), nil)
		}
		holdsList(t, "Preds", d.Preds(id), nil)
		holdsList(t, "Kids", d.Kids(id), nil)
		if d.Has(id) || d.Depth(id) != 0 || d.Ahead(id, id) || d.Ahead(of(1), id) {
			t.Errorf("nil has %x", id)
		}
	}
	holdsList(t, "Heads", d.Heads(), nil)
	holdsList(t, "Order", d.Order(), nil)
	if d.Len() != 0 || d.Clone() != nil {
		t.Error("nil has a length, or a clone")
	}
	if dag.Empty() == nil || dag.Empty().Clone() == nil {
		t.Error("an empty graph is nil")
	}
}

// 16.2: a clone is the same, and what is added to the one is not in the other, either way round.
func TestClone(t *testing.T) {
	eachGraph(t, func(t *testing.T, links []link) {
		for cut := range len(links) + 1 {
			d, m := grown(t, links[:cut])
			c := d.Clone()
			holds(t, c, m, false)
			for _, l := range links[cut:] {
				answers(t, "Add to the clone", c.Add(l.id, l.preds), api.OK)
			}
			holds(t, d, m, false)
			before := c.Order()
			_, whole := grown(t, links)
			for i, id := range d.Order() {
				answers(t, "Add to the graph", d.Add(numbered(1000+i), []string{id}), api.OK)
			}
			answers(t, "Add to the graph", d.Add(of(7), nil), api.OK)
			holds(t, c, whole, false)
			holdsList(t, "Order of the clone", c.Order(), before)
		}
	})
}

// 16.2: kids of one are told apart, also where many graphs were cloned of one, and each went on by itself.
func TestManyClones(t *testing.T) {
	for many := range 20 {
		d, m := grown(t, []link{{of(9), nil}})
		for i := range many {
			adds(t, d, m, numbered(i), []string{of(9)})
		}
		var clones []*dag.Dag
		var models []*model
		for i := range 5 {
			clones = append(clones, d.Clone())
			own := blank()
			for _, id := range m.all {
				own.answer(id, m.preds[id])
			}
			models = append(models, own)
			adds(t, clones[i], own, numbered(100-i), []string{of(9)})
		}
		clones, models = append(clones, d, clones[0].Clone()), append(models, m, models[0])
		adds(t, d, m, numbered(200), []string{of(9)})
		for i := range clones {
			holds(t, clones[i], models[i], false)
		}
	}
}

// R4: what is handed in is left as it was, and what becomes of it later changes nothing; nor does it change another list that was handed out.
func TestListsStandAlone(t *testing.T) {
	a, b, c, e := of(1), of(2), of(3), of(4)
	d, m := grown(t, []link{{a, nil}, {b, []string{a}}, {c, []string{a}}})
	backing := []string{a, b, c, "behind", "it"}
	preds := backing[:3]
	adds(t, d, m, e, preds)
	holdsList(t, "what was handed in", backing, []string{a, b, c, "behind", "it"})
	holds(t, d, m, true)
	preds[0], preds[1], preds[2] = "x", of(7), ""
	holds(t, d, m, true)

	asked := []string{e, "x", c, a, e}
	holdsList(t, "Past", d.Past(asked[:4]), []string{a, b, c, e})
	holdsList(t, "what was handed in", asked, []string{e, "x", c, a, e})
	answers(t, "Add", d.Add(of(5), []string{b, a}), api.ErrArg)

	lists := func() [][]string {
		return [][]string{d.Preds(e), d.Preds(b), d.Kids(a), d.Kids(c), d.Heads(), d.Order(), d.Past([]string{e}), d.Past([]string{a}), d.Past(asked), d.Order(), d.Kids(a)}
	}
	was, got := lists(), lists()
	for i, l := range got {
		_ = append(l, "more")
		for k := range l {
			l[k] = "written"
		}
		for k := i + 1; k < len(got); k++ {
			holdsList(t, "another list", got[k], was[k])
		}
		holds(t, d, m, true)
	}
	holdsList(t, "what was handed in", asked, []string{e, "x", c, a, e})
}

// R5: what is asked changes nothing, and is answered the same again.
func TestAskedAgain(t *testing.T) {
	eachGraph(t, func(t *testing.T, links []link) {
		d, m := grown(t, links)
		for range 3 {
			holds(t, d, m, true)
		}
		for _, l := range links {
			answers(t, "Add again", d.Add(l.id, l.preds), api.ErrTwice)
		}
		holds(t, d, m, false)
	})
}
