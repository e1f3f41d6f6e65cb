package wait

import (
	"fmt"
	"math/rand"
	"slices"
	"testing"

	"plenum/api"
)

// waysBack answers all ways from `from` back to itself on which nobody stands
// twice, without from at the end: in the order of the places in l of their first
// edges, then of their second ones, and so on.
func waysBack(l []api.Edge, from uint64) [][]uint64 {
	var found [][]uint64
	var goOn func(way []uint64)
	goOn = func(way []uint64) {
		for _, e := range l {
			switch {
			case e.From != way[len(way)-1]:
			case e.To == from:
				found = append(found, slices.Clone(way))
			case !slices.Contains(way, e.To):
				goOn(append(slices.Clone(way), e.To))
			}
		}
	}
	goOn([]uint64{from})
	return found
}

// shortest answers the first of the ways that no other one is shorter than.
// Breadth first, nodes of one distance are come to in the order of the ways that
// come to them, edge by edge: so this is the way that After finds.
func shortest(ways [][]uint64) []uint64 {
	var best []uint64
	for _, w := range ways {
		if best == nil || len(w) < len(best) {
			best = w
		}
	}
	return best
}

// isRing tells what is wrong with c as a way from `from` back to itself.
func isRing(l []api.Edge, from uint64, c []uint64) error {
	if c[0] != from {
		return fmt.Errorf("begins with %d", c[0])
	}
	for i, n := range c {
		if slices.Contains(c[:i], n) {
			return fmt.Errorf("%d stands twice in it", n)
		}
		if step := (api.Edge{From: n, To: c[(i+1)%len(c)]}); !slices.Contains(l, step) {
			return fmt.Errorf("%v is no edge", step)
		}
	}
	return nil
}

// holdsAllWays holds Cycle against all ways, and against Reaches.
func holdsAllWays(l []api.Edge, from uint64) error {
	c, ways := Cycle(l, from), waysBack(l, from)
	if is := Reaches(l, from, from); is != (len(c) > 0) || is != (len(ways) > 0) {
		return fmt.Errorf("Cycle(%v, %d) is %v, Reaches itself %v, the ways are %v", l, from, c, is, ways)
	}
	if len(c) == 0 {
		return nil
	}
	if err := isRing(l, from, c); err != nil {
		return fmt.Errorf("Cycle(%v, %d) is %v: %w", l, from, c, err)
	}
	for _, w := range ways {
		if len(w) < len(c) {
			return fmt.Errorf("Cycle(%v, %d) is %v; %v is shorter", l, from, c, w)
		}
	}
	if want := shortest(ways); !slices.Equal(c, want) {
		return fmt.Errorf("Cycle(%v, %d) is %v; After finds %v first", l, from, c, want)
	}
	return nil
}

// holdsFromEach does so from each of n nodes, and from one that no edge names.
func holdsFromEach(t *testing.T, l []api.Edge, n uint64) {
	t.Helper()
	for from := range n + 1 {
		if err := holdsAllWays(l, from); err != nil {
			t.Fatal(err)
		}
		if err := holdsWords(l, from, n); err != nil {
			t.Fatal(err)
		}
	}
}

// allEdges answers the edges that there may be between n nodes.
func allEdges(n uint64) []api.Edge {
	var l []api.Edge
	for a := range n {
		for b := range n {
			l = append(l, api.Edge{From: a, To: b})
		}
	}
	return l
}

// P13.2, P13.3: every list of up to five edges between three nodes, in every
// order, the same edge several times among them.
func TestCycleOfAllShortLists(t *testing.T) {
	all := allEdges(3)
	var longer func(l []api.Edge)
	longer = func(l []api.Edge) {
		holdsFromEach(t, l, 3)
		if len(l) == 5 {
			return
		}
		for _, e := range all {
			longer(append(slices.Clone(l), e))
		}
	}
	longer(nil)
}

// P13.2, P13.3: every graph of four nodes, its edges in a drawn order.
func TestCycleOfAllSmallGraphs(t *testing.T) {
	draw := rand.New(rand.NewSource(1))
	all := allEdges(4)
	for bits := range 1 << len(all) {
		var l []api.Edge
		for i, e := range all {
			if bits>>i&1 == 1 {
				l = append(l, e)
			}
		}
		draw.Shuffle(len(l), func(i, j int) { l[i], l[j] = l[j], l[i] })
		holdsFromEach(t, l, 4)
	}
}

// P13.2, P13.3: drawn graphs of up to seven nodes, sparse ones and dense ones.
func TestCycleOfDrawnGraphs(t *testing.T) {
	draw := rand.New(rand.NewSource(2))
	for range 3000 {
		n := 5 + draw.Intn(3)
		var l []api.Edge
		for range draw.Intn(3 * n) {
			l = append(l, api.Edge{From: uint64(draw.Intn(n)), To: uint64(draw.Intn(n))})
		}
		holdsFromEach(t, l, uint64(n))
	}
}
