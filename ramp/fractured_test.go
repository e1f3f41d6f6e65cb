package ramp

import (
	"math/rand"
	"slices"
	"testing"

	"plenum/api"
)

// P17.3: one that wrote the key of another one, which is older: in both orders,
// and whatever stands beside them.
func TestFractured(t *testing.T) {
	beside := list(saw("x", 9, "x"), none("y"), saw("z", 2))
	for _, x := range []struct {
		seen []api.Seen
		want bool
	}{
		{list(saw("a", 5, "a", "b"), saw("b", 4)), true}, {list(saw("a", 5, "a", "b"), saw("b", 5)), false}, {list(saw("a", 5, "a", "b"), saw("b", 6)), false},
		{list(saw("a", 5, "b"), saw("b", 4)), true}, {list(saw("a", 5), saw("b", 4)), false}, {list(saw("a", 5, "a"), saw("b", 4, "b")), false},
		{list(saw("a", 5, "a", "b"), none("b")), true}, {list(saw("a", 1, "b"), none("b")), true}, {list(saw("a", 0, "b"), none("b")), false}, {list(saw("a", 0, "b"), saw("b", 1)), false},
		{list(saw("a", 5, "c", "d", "b"), saw("b", 4)), true}, {list(saw("a", 5, "bb", "", "b\x00"), saw("b", 4)), false}, {list(saw("a", 5, ""), none("")), true},
		{list(saw("a", greatest, "b"), saw("b", greatest-1)), true}, {list(saw("a", greatest, "b"), saw("b", greatest)), false}, {list(saw("a", greatest-1, "b"), saw("b", greatest)), false},
		{list(saw("a", 1<<63, "b"), saw("b", 1)), true}, {list(saw("a", 1, "b"), saw("b", 1<<63)), false},
		{list(saw("a", 5, "a", "b"), saw("b", 4, "a", "b")), true}, {list(saw("a", 5, "a", "b"), saw("b", 5, "a", "b")), false},

		{list(saw("a", 5, "a"), saw("a", 4)), true}, {list(saw("a", 5), saw("a", 4, "a")), false}, {list(saw("a", 5, "a"), saw("a", 5, "a")), false}, {list(saw("a", 5, "a"), none("a")), true},
		{list(saw("a", 5, "b"), saw("b", 6), saw("b", 4)), true}, {list(saw("a", 5, "b"), saw("b", 6), saw("b", 5)), false},
		{list(saw("a", 5, "b"), saw("b", 7, "c"), saw("c", 6)), true}, {list(saw("a", 5, "b"), saw("b", 7, "c"), saw("c", 7, "a")), true}, {list(saw("a", 5, "b"), saw("b", 7, "c"), saw("c", 8)), false},

		{list(by(7, saw("a", 5, "b")), by(7, saw("b", 4))), true}, {list(by(7, saw("a", 5, "b")), by(8, saw("b", 5))), false}, {list(by(0, saw("a", 5, "b")), by(9, saw("b", 4))), true},
		{list(by(9, saw("a", 5, "b")), by(1, saw("b", 6))), false}, {list(by(1, saw("a", 5, "b")), by(9, saw("b", 4))), true},
	} {
		backward := slices.Clone(x.seen)
		slices.Reverse(backward)
		for _, l := range [][]api.Seen{x.seen, backward, slices.Concat(beside, x.seen), slices.Concat(backward, beside), slices.Concat(x.seen[:1], beside, x.seen[1:])} {
			if got := Fractured(l); got != x.want {
				t.Errorf("Fractured(%s): %v, want %v", told(l), got, x.want)
			}
		}
	}
}

// P17.3: none and one alone are no two of which one is older, though it wrote its
// own key.
func TestFracturedOfFew(t *testing.T) {
	for _, l := range [][]api.Seen{nil, {}, {{}}, list(none("a")), list(saw("a", 5)), list(saw("a", 5, "a")), list(saw("a", 5, "a", "a", "b")), list(saw("", greatest, "")), list(saw("a", 0, "a"))} {
		if Fractured(l) {
			t.Errorf("Fractured(%s)", told(l))
		}
	}
	if !Fractured([]api.Seen{{Ts: 1, Keys: [][]byte{{}}}, {Key: []byte("a")}, {}}) {
		t.Error("the empty key isn't none (P3)")
	}
}

// P17.3: a single pair among many, wherever its two stand.
func TestFracturedAmongMany(t *testing.T) {
	const size = 40
	for i := range size {
		for j := range size {
			var l []api.Seen
			for n := range size {
				key := string(rune('A' + n))
				l = append(l, saw(key, uint64(100+n), key))
			}
			l[i].Keys = append(l[i].Keys, l[j].Key)
			if want := j < i; Fractured(l) != want {
				t.Fatalf("%d of which %d wrote the key, too: %v, want %v", j, i, !want, want)
			}
		}
	}
}

// P17.3: of drawn lists, as the words say it.
func TestFracturedByWords(t *testing.T) {
	r := rand.New(rand.NewSource(1))
	count := 0
	for range 20000 {
		var l []api.Seen
		for range r.Intn(6) {
			l = append(l, drawSeen(r))
		}
		want := part(l)
		if Fractured(l) != want {
			t.Fatalf("Fractured(%s): %v, want %v", told(l), !want, want)
		}
		if want {
			count++
		}
	}
	if count < 2000 || count > 18000 {
		t.Errorf("%d of 20000 are Fractured: the draws tell little", count)
	}
}
