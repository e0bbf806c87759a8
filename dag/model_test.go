package dag_test

import (
	"encoding/hex"
	"math/rand"
	"slices"
	"strings"
	"testing"

	"chantry/api"
	"chantry/dag"
)

// of answers an ID of bytes that are all the same.
func of(c byte) string {
	return strings.Repeat(string([]byte{c}), 32)
}

// numbered answers an ID that is greater than those of lesser numbers.
func numbered(n int) string {
	return of(100)[:29] + string([]byte{byte(n >> 16), byte(n >> 8), byte(n)})
}

// link is an ID, and its predecessors.
type link struct {
	id    string
	preds []string
}

// model is a graph as the document tells it: what was added, each behind its predecessors, and nothing worked out ahead.
type model struct {
	all   []string
	preds map[string][]string
}

func blank() *model {
	return &model{preds: map[string][]string{}}
}

func (m *model) has(id string) bool {
	return slices.Contains(m.all, id)
}

func (m *model) kids(id string) []string {
	var l []string
	for _, kid := range m.all {
		if slices.Contains(m.preds[kid], id) {
			l = append(l, kid)
		}
	}
	slices.Sort(l)
	return l
}

func (m *model) heads() []string {
	var l []string
	for _, id := range m.all {
		if len(m.kids(id)) == 0 {
			l = append(l, id)
		}
	}
	slices.Sort(l)
	return l
}

// depths answers the depth of each; one stands behind its predecessors in all, so these are told by then.
func (m *model) depths() map[string]int {
	depths := map[string]int{}
	for _, id := range m.all {
		depths[id] = 1
		for _, pred := range m.preds[id] {
			depths[id] = max(depths[id], depths[pred]+1)
		}
	}
	return depths
}

func (m *model) order() []string {
	depths := m.depths()
	var l []string
	for depth := 1; len(l) < len(m.all); depth++ {
		var level []string
		for _, id := range m.all {
			if depths[id] == depth {
				level = append(level, id)
			}
		}
		slices.Sort(level)
		l = append(l, level...)
	}
	return l
}

// past answers those of l that are there, and predecessors of what it has, again and again, until no more come.
func (m *model) past(l []string) []string {
	var past []string
	for _, id := range l {
		if m.has(id) && !slices.Contains(past, id) {
			past = append(past, id)
		}
	}
	for i := 0; i < len(past); i++ {
		for _, pred := range m.preds[past[i]] {
			if !slices.Contains(past, pred) {
				past = append(past, pred)
			}
		}
	}
	slices.Sort(past)
	return past
}

func (m *model) ahead(a, b string) bool {
	return slices.Contains(m.past(m.preds[b]), a)
}

// answer answers what Add of it must be answered, and adds it if that is OK.
func (m *model) answer(id string, preds []string) api.Errno {
	wrong := len(id) != 32
	gone := false
	for i, pred := range preds {
		wrong = wrong || len(pred) != 32 || i > 0 && strings.Compare(pred, preds[i-1]) <= 0
		gone = gone || !m.has(pred)
	}
	switch {
	case wrong:
		return api.ErrArg
	case m.has(id):
		return api.ErrTwice
	case gone:
		return api.ErrPred
	case len(m.all) >= 4096:
		return api.ErrFull
	}
	m.all = append(m.all, id)
	m.preds[id] = slices.Clone(preds)
	return api.OK
}

func shown(l []string) string {
	var s []string
	for _, id := range l {
		s = append(s, hex.EncodeToString([]byte(id)))
	}
	return "[" + strings.Join(s, " ") + "]"
}

func holdsList(t *testing.T, what string, got, want []string) {
	t.Helper()
	if !slices.Equal(got, want) {
		t.Fatalf("%s: %s, want %s", what, shown(got), shown(want))
	}
}

// wrongIDs are texts that are no IDs.
func wrongIDs() []string {
	return []string{"", "x", "\x00", of(1)[:31], of(1) + "\x01", of(1) + of(1), of(0)[:31], of(255) + "\x00", strings.Repeat("0a", 32), strings.Repeat("é", 32), strings.Repeat("a", 5000)}
}

// holds holds all that a graph tells against the model; the pasts of all pairs too, if it is asked for.
func holds(t *testing.T, d *dag.Dag, m *model, pairs bool) {
	t.Helper()
	depths := m.depths()
	if d.Len() != len(m.all) {
		t.Fatalf("Len: %d, want %d", d.Len(), len(m.all))
	}
	holdsList(t, "Heads", d.Heads(), m.heads())
	holdsList(t, "Order", d.Order(), m.order())
	holdsList(t, "Past of none", d.Past(nil), nil)
	holdsList(t, "Past of all", d.Past(m.all), m.past(m.all))
	foreign := append(wrongIDs(), of(254), numbered(1<<20))
	for _, id := range append(foreign, m.all...) {
		if d.Has(id) != m.has(id) || d.Depth(id) != depths[id] {
			t.Fatalf("Has and Depth of %x: %t and %d, want %t and %d", id, d.Has(id), d.Depth(id), m.has(id), depths[id])
		}
		holdsList(t, "Preds", d.Preds(id), m.preds[id])
		holdsList(t, "Kids", d.Kids(id), m.kids(id))
		holdsList(t, "Past of one", d.Past([]string{id}), m.past([]string{id}))
	}
	for _, a := range append(foreign[1:2:2], m.all...) {
		for _, b := range append(foreign[len(foreign)-1:], m.all...) {
			if d.Ahead(a, b) != m.ahead(a, b) {
				t.Fatalf("Ahead(%x, %x): %t", a, b, d.Ahead(a, b))
			}
			if pairs {
				holdsList(t, "Past of two", d.Past([]string{a, b, a}), m.past([]string{a, b}))
			}
		}
	}
}

// grown answers the graph, and the model, to which links are added, all of which may be.
func grown(t *testing.T, links []link) (*dag.Dag, *model) {
	t.Helper()
	d, m := dag.Empty(), blank()
	for _, l := range links {
		adds(t, d, m, l.id, l.preds)
		if !m.has(l.id) || len(m.preds[l.id]) != len(l.preds) {
			t.Fatalf("the test adds what may not be: %x", l.id)
		}
	}
	return d, m
}

// adds adds to both, and holds what is answered.
func adds(t *testing.T, d *dag.Dag, m *model, id string, preds []string) {
	t.Helper()
	if e, want := d.Add(id, preds), m.answer(id, preds); e != want {
		t.Fatalf("Add(%x, %s): %d, want %d", id, shown(preds), e, want)
	}
}

// shape is for each of its nodes, in order, the numbers of its predecessors.
type shape [][]int

// named answers the links of a shape, whose nodes have these IDs.
func (s shape) named(all []string) []link {
	var links []link
	for i, numbers := range s {
		var preds []string
		for _, k := range numbers {
			preds = append(preds, all[k])
		}
		slices.Sort(preds)
		links = append(links, link{all[i], preds})
	}
	return links
}

// byRule answers a shape of so many nodes, each of which has those ahead of it as predecessors that the rule tells.
func byRule(many int, rule func(node, pred int) bool) shape {
	s := make(shape, many)
	for i := range many {
		for k := range i {
			if rule(i, k) {
				s[i] = append(s[i], k)
			}
		}
	}
	return s
}

// shapes are graphs of many kinds.
func shapes() map[string]shape {
	l := map[string]shape{
		"none":         nil,
		"one":          {nil},
		"two":          {nil, nil},
		"pair":         {nil, {0}},
		"example":      {nil, {0}, {0}},
		"diamond":      {nil, {0}, {0}, {1, 2}},
		"unlike":       {nil, {0}, {1}, {2}, {0, 3}, {0}, {4, 5}, nil, {7, 6}, {7, 0}, {1, 9}},
		"short cuts":   {nil, {0}, {0, 1}, {0, 2}, {1, 3}, {0, 1, 2, 3, 4}},
		"apart":        {nil, {0}, nil, {2}, {1}, {3}, nil},
		"late root":    {nil, {0}, {1}, nil, {2, 3}, nil, {5}, {4, 6}},
		"deep, not so": {nil, {0}, {1}, {2}, nil, {4}, {3}, {5}, {6, 7}, {0, 5}},
		"chain":        byRule(20, func(n, p int) bool { return p == n-1 }),
		"star":         byRule(20, func(n, p int) bool { return p == 0 }),
		"roots":        byRule(20, func(n, p int) bool { return false }),
		"roots met":    byRule(20, func(n, p int) bool { return n == 19 }),
		"full":         byRule(14, func(n, p int) bool { return true }),
		"tree":         byRule(20, func(n, p int) bool { return p == (n-1)/2 }),
		"two chains":   byRule(20, func(n, p int) bool { return p == n-2 }),
		"braid":        byRule(20, func(n, p int) bool { return p == n-2 || n%5 == 0 && p == n-1 }),
		"layers":       byRule(20, func(n, p int) bool { return p/4 == n/4-1 }),
		"ladder":       byRule(20, func(n, p int) bool { return p == n-2 || n%2 == 1 && p == n-1 }),
		"threes":       byRule(20, func(n, p int) bool { return n%3 == 0 && p >= n-3 || n%3 != 0 && p == n-3 }),
	}
	for seed := range 12 {
		r := rand.New(rand.NewSource(int64(1600 + seed)))
		l["by chance, "+string(rune('a'+seed))] = byRule(6+2*seed, func(n, p int) bool { return r.Intn(8) < 1+seed%4 })
	}
	return l
}

// namings answer ways in which so many nodes may have IDs: such that rise, that fall, that are mixed, that are no text in UTF-8.
func namings(many int) [][]string {
	var rising, far []string
	for i := range many {
		rising = append(rising, numbered(i))
		far = append(far, string([]byte{byte(i * 37), byte(200 + i)})+of(byte(255 - i))[2:])
	}
	falling, mixed := slices.Clone(rising), slices.Clone(rising)
	slices.Reverse(falling)
	rand.New(rand.NewSource(16)).Shuffle(many, func(i, k int) { mixed[i], mixed[k] = mixed[k], mixed[i] })
	return [][]string{rising, falling, mixed, far}
}

// eachGraph hands out the links of each shape under each naming.
func eachGraph(t *testing.T, do func(t *testing.T, links []link)) {
	for name, s := range shapes() {
		t.Run(name, func(t *testing.T) {
			for _, all := range namings(len(s)) {
				do(t, s.named(all))
			}
		})
	}
}
