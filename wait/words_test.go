package wait

import (
	"fmt"
	"math/rand"
	"slices"
	"testing"

	"plenum/api"
)

// afterByWords tells, as the chapter's words do, rank by rank: first all whom
// from waits for, then all whom these wait for, and so on; nobody that was told
// already.
func afterByWords(l []api.Edge, from uint64) []uint64 {
	var told []uint64
	rank := []uint64{from}
	for len(rank) > 0 {
		var next []uint64
		for _, node := range rank {
			for _, e := range l {
				if e.From == node && !slices.Contains(told, e.To) {
					told = append(told, e.To)
					next = append(next, e.To)
				}
			}
		}
		rank = next
	}
	return told
}

// cycleByWords goes back from `from`: to whoever has the first edge, of those
// that stand ahead in the telling, and of theirs the first in l.
func cycleByWords(l []api.Edge, from uint64) []uint64 {
	told := afterByWords(l, from)
	if !slices.Contains(told, from) {
		return nil
	}
	var way []uint64
	for node := from; ; {
		node = teller(l, from, told, node)
		way = append([]uint64{node}, way...)
		if node == from {
			return way
		}
	}
}

// teller answers the From of the first edge that tells the node: from's own
// edges come first, then those of whoever was told first, and so on.
func teller(l []api.Edge, from uint64, told []uint64, node uint64) uint64 {
	for _, n := range append([]uint64{from}, told...) {
		if slices.Contains(l, api.Edge{From: n, To: node}) {
			return n
		}
	}
	return from
}

// far answers how many edges the nodes are away from `from`, those of n nodes
// that there is a way to: found by making what is too great smaller, in no order
// of nodes.
func far(l []api.Edge, from, n uint64) []int {
	const never = 1 << 30
	away := slices.Repeat([]int{never}, int(n))
	for better := true; better; {
		better = false
		for _, e := range l {
			d := never
			if e.From == from {
				d = 1
			} else if away[e.From] < never {
				d = away[e.From] + 1
			}
			if d < away[e.To] {
				away[e.To], better = d, true
			}
		}
	}
	return away
}

// holdsWords holds all calls, over the nodes from 0 up to n, to the words.
func holdsWords(l []api.Edge, from, n uint64) error {
	got, want := after(l, from), afterByWords(l, from)
	if !slices.Equal(got, want) {
		return fmt.Errorf("After(%v, %d): %v, want %v", l, from, got, want)
	}
	if got, want := Cycle(l, from), cycleByWords(l, from); !slices.Equal(got, want) {
		return fmt.Errorf("Cycle(%v, %d): %v, want %v", l, from, got, want)
	}
	away := far(l, from, n)
	for i := 1; i < len(got); i++ {
		if away[got[i-1]] > away[got[i]] {
			return fmt.Errorf("After(%v, %d): %v: %d is nearer than %d", l, from, got, got[i], got[i-1])
		}
	}
	for to := range n {
		is := away[to] < 1<<30
		if Reaches(l, from, to) != is || slices.Contains(got, to) != is {
			return fmt.Errorf("After(%v, %d): %v; %d is %d away", l, from, got, to, away[to])
		}
	}
	return nil
}

// drawnGraph draws so many edges between n nodes; some stand there twice.
func drawnGraph(draw *rand.Rand, n, count int) []api.Edge {
	var l []api.Edge
	for len(l) < count {
		e := api.Edge{From: uint64(draw.Intn(n)), To: uint64(draw.Intn(n))}
		l = append(l, e)
		if draw.Intn(8) == 0 {
			l = append(l, l[draw.Intn(len(l))])
		}
	}
	return l
}

// P13.1, P13.2, P13.3: long drawn graphs, from those that hardly hang together
// to those in which everybody waits for many.
func TestDrawnGraphsAgainstTheWords(t *testing.T) {
	draw := rand.New(rand.NewSource(3))
	for i := range 120 {
		n := 2 + draw.Intn(60)
		l := drawnGraph(draw, n, n*(1+i%6)/2)
		for from := range uint64(n) + 1 {
			if err := holdsWords(l, from, uint64(n)); err != nil {
				t.Fatal(err)
			}
			if c := Cycle(l, from); len(c) > 0 {
				if err := isRing(l, from, c); err != nil {
					t.Fatalf("Cycle(%v, %d) is %v: %v", l, from, c, err)
				}
			}
		}
	}
}

// P13.1, P13.2, P13.3: few graphs of many nodes, most of them in one long way.
func TestLongGraphsAgainstTheWords(t *testing.T) {
	draw := rand.New(rand.NewSource(4))
	for range 6 {
		const n = 400
		var way []uint64
		for _, x := range draw.Perm(n) {
			way = append(way, uint64(x))
		}
		l := append(ringOf(way...), drawnGraph(draw, n, draw.Intn(300))...)
		draw.Shuffle(len(l), func(i, j int) { l[i], l[j] = l[j], l[i] })
		for range 4 {
			if err := holdsWords(l, uint64(draw.Intn(n)), n); err != nil {
				t.Fatal(err)
			}
		}
	}
}

// P13.1: edges that don't hang together with from change nothing of what is
// told, wherever they stand.
func TestForeignEdgesChangeNothing(t *testing.T) {
	draw := rand.New(rand.NewSource(5))
	for range 200 {
		n := 2 + draw.Intn(10)
		l := drawnGraph(draw, n, draw.Intn(3*n))
		mixed := slices.Clone(l)
		for range draw.Intn(20) {
			foreign := api.Edge{From: uint64(100 + draw.Intn(9)), To: uint64(draw.Intn(109))}
			mixed = slices.Insert(mixed, draw.Intn(len(mixed)+1), foreign)
		}
		for from := range uint64(n) {
			if got, want := after(mixed, from), after(l, from); !slices.Equal(got, want) {
				t.Fatalf("After(%v, %d): %v; without those of others %v", mixed, from, got, want)
			}
			if got, want := Cycle(mixed, from), Cycle(l, from); !slices.Equal(got, want) {
				t.Fatalf("Cycle(%v, %d): %v; without those of others %v", mixed, from, got, want)
			}
		}
	}
}

// P13.1, P13.2: an edge that stands there already changes nothing, if it comes
// later.
func TestTheSameEdgeLaterChangesNothing(t *testing.T) {
	draw := rand.New(rand.NewSource(6))
	for range 200 {
		n := 2 + draw.Intn(10)
		l := drawnGraph(draw, n, 1+draw.Intn(3*n))
		more := slices.Clone(l)
		for range 10 {
			i := draw.Intn(len(more))
			more = slices.Insert(more, i+1+draw.Intn(len(more)-i), more[i])
		}
		for from := range uint64(n) {
			if got, want := after(more, from), after(l, from); !slices.Equal(got, want) {
				t.Fatalf("After(%v, %d): %v, want %v", more, from, got, want)
			}
			if got, want := Cycle(more, from), Cycle(l, from); !slices.Equal(got, want) {
				t.Fatalf("Cycle(%v, %d): %v, want %v", more, from, got, want)
			}
		}
	}
}
