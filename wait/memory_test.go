package wait

import (
	"slices"
	"testing"

	"plenum/api"
)

// spoil changes all edges, up to the list's capacity.
func spoil(l []api.Edge) {
	l = l[:cap(l)]
	for i := range l {
		l[i] = api.Edge{From: 1, To: uint64(70 + i)}
	}
}

// spoilNodes changes all nodes, up to the list's capacity.
func spoilNodes(l []uint64) {
	l = l[:cap(l)]
	for i := range l {
		l[i] = 77
	}
}

// P2: nothing that is handed in is changed.
func TestNothingHandedInIsChanged(t *testing.T) {
	l, _ := knot()
	same, _ := knot()
	for _, from := range []uint64{0, 1, 4, 5, 8, 9, greatest} {
		spoilNodes(Cycle(l, from))
		spoilNodes(after(l, from))
		told := After(l, from)
		for n := range 9 {
			some(told, n)
		}
		for to := range uint64(10) {
			Reaches(l, from, to)
		}
	}
	if !slices.Equal(l, same) {
		t.Errorf("what was handed in was changed: %v", l)
	}
}

// P2: what is told isn't changed by a change of what was handed in: neither
// ahead of the telling, nor between two, nor within one.
func TestToldApartFromWhatWasHandedIn(t *testing.T) {
	l, want := knot()
	told := After(l, 1)
	spoil(l)
	for range 2 {
		if got := slices.Collect(told); !slices.Equal(got, want) {
			t.Errorf("behind a change of the edges: %v, want %v", got, want)
		}
	}
	for at := range len(want) {
		l, _ := knot()
		told := After(l, 1)
		var got []uint64
		for x := range told {
			if len(got) == at {
				spoil(l)
			}
			got = append(got, x)
		}
		if !slices.Equal(got, want) {
			t.Errorf("the edges are changed at the telling %d: %v, want %v", at, got, want)
		}
		if got := slices.Collect(told); !slices.Equal(got, want) {
			t.Errorf("once more: %v, want %v", got, want)
		}
	}
}

// P2: what Cycle answered isn't changed by a change of what was handed in.
func TestCycleApartFromWhatWasHandedIn(t *testing.T) {
	l, _ := knot()
	c := Cycle(l, 1)
	spoil(l)
	if !slices.Equal(c, []uint64{1, 2, 4}) {
		t.Errorf("behind a change of the edges: %v", c)
	}
}

// P2: no two answers share memory: a change of one, behind its length too,
// changes neither another one nor what is told later.
func TestAnswersAreApart(t *testing.T) {
	l, want := knot()
	told := After(l, 1)
	a, b := Cycle(l, 1), Cycle(l, 1)
	x, y := slices.Collect(told), slices.Collect(told)
	spoilNodes(a)
	spoilNodes(x)
	_ = append(a, 1, 2, 3)
	if !slices.Equal(b, []uint64{1, 2, 4}) || !slices.Equal(y, want) {
		t.Errorf("behind a change of other answers: %v and %v", b, y)
	}
	if c := Cycle(l, 1); !slices.Equal(c, []uint64{1, 2, 4}) {
		t.Errorf("Cycle behind a change of an answer: %v", c)
	}
	if z := slices.Collect(told); !slices.Equal(z, want) {
		t.Errorf("After behind a change of what was told: %v, want %v", z, want)
	}
}

// P2: two Afters of one list of edges are apart, whichever node they begin at.
func TestTwoAftersAreApart(t *testing.T) {
	l, want := knot()
	one, four := After(l, 1), After(l, 4)
	for n := range len(want) + 1 {
		some(one, n)
		if got, want := slices.Collect(four), []uint64{4, 1, 2, 3, 5, 6, 7}; !slices.Equal(got, want) {
			t.Errorf("from 4: %v, want %v", got, want)
		}
	}
	if got := slices.Collect(one); !slices.Equal(got, want) {
		t.Errorf("from 1: %v, want %v", got, want)
	}
}

// P2: what lies behind a list's length is neither read nor changed.
func TestBehindTheLength(t *testing.T) {
	whole, _ := knot()
	same, _ := knot()
	for n := range len(whole) {
		alone := slices.Clip(slices.Clone(whole[:n]))
		for _, from := range []uint64{1, 4, 5, 0} {
			if got, want := after(whole[:n], from), after(alone, from); !slices.Equal(got, want) {
				t.Errorf("After of the first %d, from %d: %v, want %v", n, from, got, want)
			}
			if got, want := Cycle(whole[:n], from), Cycle(alone, from); !slices.Equal(got, want) {
				t.Errorf("Cycle of the first %d, from %d: %v, want %v", n, from, got, want)
			}
			if got, want := Reaches(whole[:n], from, greatest), slices.Contains(after(alone, from), greatest); got != want {
				t.Errorf("Reaches of the first %d, from %d: %v, want %v", n, from, got, want)
			}
		}
	}
	if !slices.Equal(whole, same) {
		t.Errorf("what lies behind the length was changed: %v", whole)
	}
}
