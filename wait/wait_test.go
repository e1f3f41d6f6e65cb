package wait

import (
	"math"
	"slices"
	"testing"

	"plenum/api"
)

const greatest = uint64(math.MaxUint64)

// edges answers the edges between each two numbers: the first waits for the
// second, the third for the fourth, and so on.
func edges(ends ...uint64) []api.Edge {
	var l []api.Edge
	for i := 0; i+1 < len(ends); i += 2 {
		l = append(l, api.Edge{From: ends[i], To: ends[i+1]})
	}
	return l
}

// chain answers the edges from each of these nodes to the next one.
func chain(nodes ...uint64) []api.Edge {
	var l []api.Edge
	for i := 1; i < len(nodes); i++ {
		l = append(l, api.Edge{From: nodes[i-1], To: nodes[i]})
	}
	return l
}

// ringOf answers the edges from each of these nodes to the next one, and from
// the last one to the first.
func ringOf(nodes ...uint64) []api.Edge {
	return append(chain(nodes...), api.Edge{From: nodes[len(nodes)-1], To: nodes[0]})
}

// upTo answers the numbers from first up to last.
func upTo(first, last uint64) []uint64 {
	var l []uint64
	for n := first; n <= last; n++ {
		l = append(l, n)
	}
	return l
}

// after answers what After tells, whole.
func after(l []api.Edge, from uint64) []uint64 {
	return slices.Collect(After(l, from))
}

// waitCase is edges, where one begins, and what must come out.
type waitCase struct {
	name  string
	l     []api.Edge
	from  uint64
	after []uint64
	cycle []uint64
}

// hold holds all three calls to the case; others are nodes that Reaches is asked
// of, beside those that the case names.
func (c waitCase) hold(t *testing.T, others ...uint64) {
	t.Helper()
	if got := after(c.l, c.from); !slices.Equal(got, c.after) {
		t.Errorf("%s: After(%v, %d): %v, want %v", c.name, c.l, c.from, got, c.after)
	}
	if got := Cycle(c.l, c.from); !slices.Equal(got, c.cycle) {
		t.Errorf("%s: Cycle(%v, %d): %v, want %v", c.name, c.l, c.from, got, c.cycle)
	}
	asked := append([]uint64{c.from, 0, greatest}, others...)
	for _, e := range c.l {
		asked = append(asked, e.From, e.To)
	}
	slices.Sort(asked)
	for _, to := range slices.Compact(asked) {
		if got, want := Reaches(c.l, c.from, to), slices.Contains(c.after, to); got != want {
			t.Errorf("%s: Reaches(%v, %d, %d): %v, want %v", c.name, c.l, c.from, to, got, want)
		}
	}
}

// The example of the chapter.
func TestExample(t *testing.T) {
	l := []api.Edge{{From: 1, To: 2}, {From: 2, To: 1}}
	if got := Cycle(l, 1); !slices.Equal(got, []uint64{1, 2}) {
		t.Errorf("Cycle of 1 to 2, 2 to 1, from 1: %v, want 1, 2", got)
	}
}

// P13.1, P13.2: no edges, a few ones, and those that say nothing of from.
func TestFewEdges(t *testing.T) {
	for _, c := range []waitCase{
		{"no edges", nil, 1, nil, nil},
		{"no edges", []api.Edge{}, 0, nil, nil},
		{"no edges", nil, greatest, nil, nil},
		{"one edge, from its From", edges(1, 2), 1, []uint64{2}, nil},
		{"one edge, from its To", edges(1, 2), 2, nil, nil},
		{"one edge, from somebody else", edges(1, 2), 3, nil, nil},
		{"to itself", edges(1, 1), 1, []uint64{1}, []uint64{1}},
		{"to itself, from somebody else", edges(1, 1), 2, nil, nil},
		{"to itself twice", edges(1, 1, 1, 1), 1, []uint64{1}, []uint64{1}},
		{"the same edge twice", edges(1, 2, 1, 2), 1, []uint64{2}, nil},
		{"the same edge twice, the one behind the other not", edges(1, 2, 1, 3, 1, 2), 1, []uint64{2, 3}, nil},
		{"a ring, each edge twice", edges(1, 2, 1, 2, 2, 1, 2, 1), 1, []uint64{2, 1}, []uint64{1, 2}},
		{"there and back", edges(1, 2, 2, 1), 2, []uint64{1, 2}, []uint64{2, 1}},
		{"edges that don't hang together", edges(1, 2, 3, 4, 4, 3, 5, 5), 1, []uint64{2}, nil},
		{"edges that don't hang together", edges(1, 2, 3, 4, 4, 3, 5, 5), 3, []uint64{4, 3}, []uint64{3, 4}},
		{"edges that come to from alone", edges(2, 1, 3, 1, 4, 3), 1, nil, nil},
		{"from that no edge names", edges(1, 2, 2, 3, 3, 1), 4, nil, nil},
		{"from 0 that no edge names", edges(1, 2, 2, 1), 0, nil, nil},
	} {
		c.hold(t, 1, 2, 3, 4, 5, 6)
	}
}

// P13.1: breadth first, of each node its Tos in the order of l, wherever in l
// they stand.
func TestBreadthFirst(t *testing.T) {
	for _, c := range []waitCase{
		{"a chain", chain(1, 2, 3, 4, 5), 1, []uint64{2, 3, 4, 5}, nil},
		{"a chain, its edges the other way about", edges(4, 5, 3, 4, 2, 3, 1, 2), 1, []uint64{2, 3, 4, 5}, nil},
		{"a chain from its middle", chain(1, 2, 3, 4, 5), 3, []uint64{4, 5}, nil},
		{"a tree", edges(1, 2, 1, 3, 2, 4, 2, 5, 3, 6, 3, 7), 1, []uint64{2, 3, 4, 5, 6, 7}, nil},
		{"a tree, falling", edges(3, 7, 3, 6, 2, 5, 2, 4, 1, 3, 1, 2), 1, []uint64{3, 2, 7, 6, 5, 4}, nil},
		{"a deep branch ahead of a flat one", edges(1, 2, 2, 3, 3, 4, 4, 5, 1, 6, 6, 7), 1, []uint64{2, 6, 3, 7, 4, 5}, nil},
		{"Tos in the order of l, not of numbers", edges(1, 9, 1, 4, 1, 7, 1, 2), 1, []uint64{9, 4, 7, 2}, nil},
		{"come to by several", edges(1, 2, 1, 3, 2, 4, 3, 4, 1, 5, 5, 4), 1, []uint64{2, 3, 5, 4}, nil},
		{"come to directly behind a longer way", edges(1, 2, 2, 3, 1, 3), 1, []uint64{2, 3}, nil},
		{"whose turn it is hangs on who was told first", edges(3, 30, 2, 20, 1, 3, 1, 2), 1, []uint64{3, 2, 30, 20}, nil},
		{"two that tell the same", edges(1, 2, 1, 3, 3, 6, 3, 5, 2, 5, 2, 4), 1, []uint64{2, 3, 5, 4, 6}, nil},
	} {
		c.hold(t, 1, 2, 3, 4, 5, 6, 7, 8, 9)
	}
}

// P13.1: from itself is told, once, where it is come to: neither ahead of all
// nor always behind all.
func TestFromIsToldWhereItIsComeTo(t *testing.T) {
	for _, c := range []waitCase{
		{"ahead", edges(1, 1, 1, 2, 2, 3), 1, []uint64{1, 2, 3}, []uint64{1}},
		{"in the middle", edges(1, 2, 1, 1, 1, 3), 1, []uint64{2, 1, 3}, []uint64{1}},
		{"in the middle, by another one", edges(1, 2, 2, 1, 2, 3, 3, 4), 1, []uint64{2, 1, 3, 4}, []uint64{1, 2}},
		{"behind", edges(1, 2, 2, 3, 3, 1), 1, []uint64{2, 3, 1}, []uint64{1, 2, 3}},
		{"by several", edges(1, 2, 1, 3, 2, 1, 3, 1, 1, 1), 1, []uint64{2, 3, 1}, []uint64{1}},
		{"its edges aren't gone through anew", edges(1, 2, 2, 1, 1, 3, 1, 2, 3, 4), 1, []uint64{2, 3, 1, 4}, []uint64{1, 2}},
	} {
		c.hold(t, 1, 2, 3, 4, 5)
	}
}

// P13.2: rings of one, two, three and more nodes, from each of their nodes.
func TestRings(t *testing.T) {
	for size := uint64(1); size <= 20; size++ {
		nodes := upTo(10, 9+size)
		l := ringOf(nodes...)
		falling := slices.Clone(l)
		slices.Reverse(falling)
		for i, from := range nodes {
			turned := slices.Concat(nodes[i:], nodes[:i])
			told := append(slices.Clone(turned[1:]), from)
			for _, l := range [][]api.Edge{l, falling, slices.Concat(l, l)} {
				waitCase{"a ring", l, from, told, turned}.hold(t, 9)
			}
		}
	}
}

// P13.2: of two rings the shorter one, wherever its edges stand; of two of the
// same length the one that After finds first.
func TestTwoRings(t *testing.T) {
	two, three, other := ringOf(1, 2), ringOf(1, 3, 4), ringOf(1, 5, 6)
	for _, c := range []struct {
		name string
		l    []api.Edge
		want []uint64
	}{
		{"the shorter one ahead", slices.Concat(two, three), []uint64{1, 2}},
		{"the shorter one behind", slices.Concat(three, two), []uint64{1, 2}},
		{"to itself, behind all", slices.Concat(three, two, edges(1, 1)), []uint64{1}},
		{"to itself, ahead of all", slices.Concat(edges(1, 1), three, two), []uint64{1}},
		{"the same length", slices.Concat(three, other), []uint64{1, 3, 4}},
		{"the same length, the other one ahead", slices.Concat(other, three), []uint64{1, 5, 6}},
		{"by the order of from's edges", edges(6, 1, 4, 1, 5, 6, 3, 4, 1, 5, 1, 3), []uint64{1, 5, 6}},
		{"not by the order of the edges back", edges(4, 1, 6, 1, 3, 4, 5, 6, 1, 5, 1, 3), []uint64{1, 5, 6}},
		{"of two that part late, the first edge", edges(1, 2, 2, 4, 2, 3, 3, 1, 4, 1), []uint64{1, 2, 4}},
		{"of two that part late, the first edge", edges(1, 2, 2, 3, 2, 4, 4, 1, 3, 1), []uint64{1, 2, 3}},
		{"of two that meet, who was told first", edges(1, 3, 1, 2, 2, 4, 3, 4, 4, 1), []uint64{1, 3, 4}},
		{"of two that meet, who was told first", edges(1, 2, 1, 3, 3, 4, 2, 4, 4, 1), []uint64{1, 2, 4}},
		{"a node come to by a first edge far behind", edges(3, 4, 4, 1, 1, 2, 1, 3, 2, 4), []uint64{1, 2, 4}},
		{"two rings that share a step", edges(1, 2, 2, 3, 3, 1, 3, 4, 4, 1), []uint64{1, 2, 3}},
		{"a ring on the way", edges(1, 2, 2, 3, 3, 2, 3, 4, 4, 1), []uint64{1, 2, 3, 4}},
		{"others that wait for themselves", edges(1, 2, 2, 2, 2, 3, 3, 3, 3, 1), []uint64{1, 2, 3}},
	} {
		if got := Cycle(c.l, 1); !slices.Equal(got, c.want) {
			t.Errorf("%s: Cycle(%v, 1): %v, want %v", c.name, c.l, got, c.want)
		}
	}
}

// P13.2, P13.3: a way that ends at a ring without from is none back to from.
func TestARingWithoutFrom(t *testing.T) {
	for _, c := range []waitCase{
		{"ends at one that waits for itself", edges(1, 2, 2, 2), 1, []uint64{2}, nil},
		{"ends at a ring of two", edges(1, 2, 2, 3, 3, 2), 1, []uint64{2, 3}, nil},
		{"ends at a ring of three", append(edges(1, 2), ringOf(2, 3, 4)...), 1, []uint64{2, 3, 4}, nil},
		{"ends at two rings", slices.Concat(edges(1, 5, 1, 2), ringOf(2, 3), ringOf(5, 6, 7)), 1, []uint64{5, 2, 6, 3, 7}, nil},
		{"the ring alone", append(edges(1, 2), ringOf(2, 3, 4)...), 3, []uint64{4, 2, 3}, []uint64{3, 4, 2}},
		{"a ring that from isn't come from", append(ringOf(2, 3), edges(2, 1, 3, 1)...), 1, nil, nil},
	} {
		c.hold(t, 1, 2, 3, 4, 5, 6, 7, 8)
	}
}

// P13.1, P13.2: 0 and the greatest number are nodes as others are.
func TestEdgesOfNumbers(t *testing.T) {
	for _, c := range []waitCase{
		{"0 to itself", edges(0, 0), 0, []uint64{0}, []uint64{0}},
		{"0 to itself, from another", edges(0, 0), 1, nil, nil},
		{"the greatest to itself", edges(greatest, greatest), greatest, []uint64{greatest}, []uint64{greatest}},
		{"0 and the greatest", edges(0, greatest, greatest, 0), 0, []uint64{greatest, 0}, []uint64{0, greatest}},
		{"the greatest and 0", edges(0, greatest, greatest, 0), greatest, []uint64{0, greatest}, []uint64{greatest, 0}},
		{"to 0 alone", edges(greatest, 0), greatest, []uint64{0}, nil},
		{"from 0 alone", edges(greatest, 0), 0, nil, nil},
		{"0 on the way", ringOf(7, 0, greatest), 7, []uint64{0, greatest, 7}, []uint64{7, 0, greatest}},
		{"0 that waits for itself on the way", append(ringOf(7, 0, greatest), edges(0, 0)...), 7, []uint64{0, greatest, 7}, []uint64{7, 0, greatest}},
		{"numbers of more than 32 bits", ringOf(1<<32, 1, 1<<33+1, 1<<63), 1, []uint64{1<<33 + 1, 1 << 63, 1 << 32, 1}, []uint64{1, 1<<33 + 1, 1 << 63, 1 << 32}},
		{"the same ones but for the upper bits", edges(1, 1<<32+1, 1<<32+1, 1<<33+1), 1, []uint64{1<<32 + 1, 1<<33 + 1}, nil},
		{"the same ones but for the top bit", edges(1, 1<<63|1), 1, []uint64{1<<63 | 1}, nil},
	} {
		c.hold(t, 1, 7, 1<<32, 1<<63)
	}
}

// P13.1, P13.2, P1: a node that has many edges, one that many come to, long
// chains and rings, and everybody waiting for everybody.
func TestMany(t *testing.T) {
	const n = 20000
	nodes := upTo(1, n)
	var out, in []api.Edge
	for _, x := range nodes {
		out = append(out, api.Edge{From: 0, To: x})
		in = append(in, api.Edge{From: x, To: 0})
	}
	ring := ringOf(upTo(0, n)...)
	for _, c := range []waitCase{
		{"a node with many edges", out, 0, nodes, nil},
		{"from that many come to", in, 0, nil, nil},
		{"one of many", in, 5, []uint64{0}, nil},
		{"there and back by many", slices.Concat(out, in), 0, append(slices.Clone(nodes), 0), []uint64{0, 1}},
		{"back by the last one alone", slices.Concat(out, in[n-1:]), 0, append(slices.Clone(nodes), 0), []uint64{0, n}},
		{"a long chain", ring[:n], 0, nodes, nil},
		{"a long ring", ring, 0, append(slices.Clone(nodes), 0), upTo(0, n)},
	} {
		if got := Cycle(c.l, c.from); !slices.Equal(got, c.cycle) {
			t.Errorf("%s: a Cycle of %d, want %d", c.name, len(got), len(c.cycle))
		}
		if got := after(c.l, c.from); !slices.Equal(got, c.after) {
			t.Errorf("%s: After tells %d, want %d", c.name, len(got), len(c.after))
		}
	}
}

// P13.1, P13.2: everybody waits for everybody, and each edge stands there twice.
func TestAllForAll(t *testing.T) {
	const n = 30
	var l []api.Edge
	for a := uint64(1); a <= n; a++ {
		for b := uint64(1); b <= n; b++ {
			if a != b {
				l = append(l, api.Edge{From: a, To: b}, api.Edge{From: a, To: b})
			}
		}
	}
	for from := uint64(1); from <= n; from++ {
		first := uint64(1)
		if from == 1 {
			first = 2
		}
		want := slices.DeleteFunc(upTo(1, n), func(x uint64) bool { return x == from })
		want = slices.Insert(want, n-1, from)
		waitCase{"all for all", l, from, want, []uint64{from, first}}.hold(t)
	}
}

// P13.1: Reaches of from itself and of others.
func TestReaches(t *testing.T) {
	l := edges(1, 2, 2, 3, 1, 3, 3, 1, 4, 1, 5, 5, 0, greatest)
	want := map[uint64][]uint64{
		0: {greatest},
		1: {1, 2, 3},
		2: {1, 2, 3},
		3: {1, 2, 3},
		4: {1, 2, 3},
		5: {5},
	}
	for _, from := range []uint64{0, 1, 2, 3, 4, 5, 6, greatest} {
		for _, to := range []uint64{0, 1, 2, 3, 4, 5, 6, greatest} {
			if got := Reaches(l, from, to); got != slices.Contains(want[from], to) {
				t.Errorf("Reaches(%v, %d, %d): %v", l, from, to, got)
			}
		}
	}
}
