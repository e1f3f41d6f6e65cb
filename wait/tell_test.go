package wait

import (
	"iter"
	"slices"
	"testing"

	"plenum/api"
)

// knot answers edges from 1 with forks, a ring through 1, one without it, edges
// that stand there twice, and whom they tell.
func knot() ([]api.Edge, []uint64) {
	l := edges(1, 2, 1, 3, 1, 2, 2, 4, 3, 4, 3, 5, 4, 4, 4, 1, 5, 6, 6, 5, 5, 7, 8, 1, 0, greatest)
	return l, []uint64{2, 3, 4, 5, 1, 6, 7}
}

// some answers the first n that are told, and leaves then.
func some(told iter.Seq[uint64], n int) []uint64 {
	var got []uint64
	if n == 0 {
		for range told {
			break
		}
		return got
	}
	for x := range told {
		got = append(got, x)
		if len(got) == n {
			break
		}
	}
	return got
}

// P13.1, P5: After may be left at each place, and gone through again then.
func TestAfterLeftEarly(t *testing.T) {
	l, want := knot()
	told := After(l, 1)
	for n := range len(want) + 1 {
		if got := some(told, n); !slices.Equal(got, want[:n]) {
			t.Errorf("left behind %d: %v, want %v", n, got, want[:n])
		}
		if got := slices.Collect(told); !slices.Equal(got, want) {
			t.Errorf("whole, once left behind %d: %v, want %v", n, got, want)
		}
	}
}

// P5: whoever leaves isn't told anything more.
func TestNothingIsToldBehindLeaving(t *testing.T) {
	l, want := knot()
	for n := range len(want) {
		calls := 0
		After(l, 1)(func(uint64) bool {
			calls++
			return calls <= n
		})
		if calls != n+1 {
			t.Errorf("left at the telling %d: %d were told", n+1, calls)
		}
	}
}

// P13.1, P5: After may be gone through twice, and within itself.
func TestAfterGoneThroughAgain(t *testing.T) {
	l, want := knot()
	told := After(l, 1)
	for range 3 {
		if got := slices.Collect(told); !slices.Equal(got, want) {
			t.Errorf("once more: %v, want %v", got, want)
		}
	}
	var outer []uint64
	for a := range told {
		outer = append(outer, a)
		if got := slices.Collect(told); !slices.Equal(got, want) {
			t.Errorf("within itself: %v, want %v", got, want)
		}
	}
	if !slices.Equal(outer, want) {
		t.Errorf("around itself: %v, want %v", outer, want)
	}
}

// P5: two who go through one After, each at their own pace, don't get in each
// other's way.
func TestTwoGoThroughOneAfter(t *testing.T) {
	l, want := knot()
	told := After(l, 1)
	slow, stopSlow := iter.Pull(told)
	quick, stopQuick := iter.Pull(told)
	defer stopSlow()
	defer stopQuick()
	var a, b []uint64
	for range len(want) {
		for range 2 {
			if x, is := quick(); is {
				b = append(b, x)
			}
		}
		if x, is := slow(); is {
			a = append(a, x)
		}
	}
	if !slices.Equal(a, want) || !slices.Equal(b, want) {
		t.Errorf("two were told %v and %v, want %v", a, b, want)
	}
}

// P13.1, P5: nothing to tell, gone through twice and left.
func TestAfterOfNothing(t *testing.T) {
	for _, l := range [][]api.Edge{nil, {}, edges(2, 1)} {
		told := After(l, 1)
		for n := range 3 {
			if got := some(told, n); len(got) != 0 {
				t.Errorf("After(%v, 1): %v", l, got)
			}
		}
	}
}

// P3: no edges and an empty list of them are the same, and the same calls answer
// the same.
func TestTheSameCallsAnswerTheSame(t *testing.T) {
	for _, from := range []uint64{0, 1, greatest} {
		for _, l := range [][]api.Edge{nil, {}, make([]api.Edge, 0, 8)} {
			if len(after(l, from)) != 0 || len(Cycle(l, from)) != 0 || Reaches(l, from, from) || Reaches(l, from, 0) {
				t.Errorf("no edges, from %d: something is told", from)
			}
		}
	}
	l, want := knot()
	for range 50 {
		if got := after(l, 1); !slices.Equal(got, want) {
			t.Fatalf("After: %v, want %v", got, want)
		}
		if got := Cycle(l, 1); !slices.Equal(got, []uint64{1, 2, 4}) {
			t.Fatalf("Cycle: %v, want 1, 2, 4", got)
		}
		if !Reaches(l, 1, 7) || Reaches(l, 1, 8) || Reaches(l, 1, 0) {
			t.Fatal("Reaches isn't the same")
		}
	}
}
