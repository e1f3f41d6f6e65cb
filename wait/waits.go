package wait

import (
	"iter"

	"plenum/api"
)

// waits is, by node, the edges that begin there, in their order. No edge stands
// there twice: the second one would never tell anybody.
type waits map[uint64][]api.Edge

// waitsOf answers what the edges say, in memory of its own.
func waitsOf(l []api.Edge) waits {
	w := waits{}
	had := map[api.Edge]struct{}{}
	for _, e := range l {
		if _, is := had[e]; is {
			continue
		}
		had[e] = struct{}{}
		w[e.From] = append(w[e.From], e)
	}
	return w
}

// steps tells, breadth first, the edges that come to somebody to whom none came
// yet: from counts as such a one, too, till an edge comes back to it.
func (w waits) steps(from uint64) iter.Seq[api.Edge] {
	return func(yield func(api.Edge) bool) {
		come := map[uint64]struct{}{}
		for next := []uint64{from}; len(next) > 0; next = next[1:] {
			for _, e := range w[next[0]] {
				if _, is := come[e.To]; is {
					continue
				}
				come[e.To] = struct{}{}
				next = append(next, e.To)
				if !yield(e) {
					return
				}
			}
		}
	}
}
