package lock

import (
	"math"
	"slices"
	"strings"
	"testing"

	"plenum/api"
)

// numbers are the four modes, and numbers that are none.
var numbers = []int{math.MinInt, math.MinInt + 1, -4, -3, -2, -1, 0, api.IS, api.IX, api.S, api.X, 5, 6, 7, 255, 256, 257, 1<<32 + 1, math.MaxInt - 1, math.MaxInt}

// named answers the pair of modes by their names, as in "IS IX"; "" if one is
// no mode.
func named(a, b int) string {
	if a < 1 || a > 4 || b < 1 || b > 4 {
		return ""
	}
	return modeNames[a] + " " + modeNames[b]
}

// P14.1: the modes have the numbers that package api gives them.
func TestModeNames(t *testing.T) {
	if !slices.Equal([]int{api.IS, api.IX, api.S, api.X}, []int{1, 2, 3, 4}) {
		t.Error("the modes aren't 1 to 4")
	}
}

// P14.1: Fits of every pair of modes, and of numbers that are none.
func TestFits(t *testing.T) {
	fitting := []string{
		"IS IS", "IS IX", "IS S",
		"IX IS", "IX IX",
		"S IS", "S S",
	}
	count := 0
	for _, a := range numbers {
		for _, b := range numbers {
			got := Fits(a, b)
			if got {
				count++
			}
			if want := slices.Contains(fitting, named(a, b)); got != want {
				t.Errorf("Fits(%d, %d) (%s): %v, want %v", a, b, named(a, b), got, want)
			}
		}
	}
	if count != len(fitting) {
		t.Errorf("%d pairs fit, want %d", count, len(fitting))
	}
}

// bounds are bounds of keys that touch, meet and begin alike; nothing is one.
var bounds = []string{"", "\x00", "a", "a\x00", "aa", "b", "b\xff", "c", "\xff", "\xff\xff"}

// ranges answers every pair of bounds, also those the wrong way round.
func ranges() [][2]string {
	var l [][2]string
	for _, lo := range bounds {
		for _, hi := range bounds {
			l = append(l, [2]string{lo, hi})
		}
	}
	return l
}

// isAbove answers whether hi is above lo, where nothing as hi is above all.
func isAbove(hi, lo string) bool {
	return hi == "" || strings.Compare(hi, lo) == 1
}

// at answers the lock with these bounds.
func at(l api.Lock, bounds [2]string) api.Lock {
	l.Lo, l.Hi = []byte(bounds[0]), []byte(bounds[1])
	return l
}

// P14.1: Apart of bounds that touch, meet, enclose each other and are nothing.
func TestApartByKeys(t *testing.T) {
	for _, c := range []struct {
		a, b string
		want bool
	}{
		{"1 X a-b", "2 X a-b", false},
		{"1 X a-b", "2 X b-c", true}, // they touch
		{"1 X a-b", "2 X c-d", true},
		{"1 X a-b", "2 X aa-c", false}, // they meet
		{"1 X a-c", "2 X b-d", false},
		{"1 X a-d", "2 X b-c", false}, // one encloses the other
		{"1 X a-d", "2 X a-b", false},
		{"1 X a-d", "2 X c-d", false},
		{"1 X a-a\x00", "2 X a\x00-b", true}, // one key alone
		{"1 X a-a\x00", "2 X a-b", false},
		{"1 X a-a\x00", "2 X aa-b", true},
		{"1 X a-", "2 X b-c", false}, // nothing as Hi
		{"1 X b-", "2 X a-b", true},
		{"1 X b-", "2 X a-b\x00", false},
		{"1 X a-", "2 X \xff\xff-", false},
		{"1 X -", "2 X a-b", false},
		{"1 X -", "2 X -", false},
		{"1 X -a", "2 X a-", true}, // nothing as Lo
		{"1 X -a", "2 X -a", false},
		{"1 X -b", "2 X a-", false},
		{"1 X 9-a", "2 X 10-9", true}, // byte by byte
		{"1 X a-\x80", "2 X \x7f-z", false},
	} {
		if got := Apart(of(c.a), of(c.b)); got != c.want {
			t.Errorf("Apart(%s, %s): %v, want %v", c.a, c.b, got, c.want)
		}
		if got := Apart(of(c.b), of(c.a)); got != c.want {
			t.Errorf("Apart(%s, %s): %v, want %v", c.b, c.a, got, c.want)
		}
	}
}

// P14.1: Apart of any two ranges over all bounds, the wrong way round too.
func TestApartOfAllBounds(t *testing.T) {
	x, y := of("1 S a-b"), of("2 S a-b")
	for _, a := range ranges() {
		for _, b := range ranges() {
			want := !isAbove(a[1], b[0]) || !isAbove(b[1], a[0])
			if got := Apart(at(x, a), at(y, b)); got != want {
				t.Errorf("Apart of %q and %q: %v, want %v", a, b, got, want)
			}
			if !Apart(at(x, a), at(x, b)) {
				t.Errorf("Apart of %q and %q of one transaction: false", a, b)
			}
		}
	}
}

// P14.1: Apart of unlike Levels and of one Txn, whatever the modes are; what is
// no Level is like itself.
func TestApartByLevelAndTxn(t *testing.T) {
	levels := []int{math.MinInt, -1, api.Whole, api.Part, 2, math.MaxInt}
	txns := []uint64{0, 1, 2, 1 << 32, 1<<32 + 1, math.MaxUint64}
	for _, a := range levels {
		for _, b := range levels {
			for _, x := range txns {
				for _, y := range txns {
					for i, m := range numbers {
						p, q := api.Lock{Txn: x, Level: a, Mode: m}, api.Lock{Txn: y, Level: b, Mode: numbers[len(numbers)-1-i]}
						if got, want := Apart(p, q), a != b || x == y; got != want {
							t.Fatalf("Apart(%v, %v): %v, want %v", p, q, got, want)
						}
					}
				}
			}
		}
	}
}

// P14.1: Covers of bounds that touch, meet, enclose each other and are nothing.
func TestCoversByKeys(t *testing.T) {
	for _, c := range []struct {
		a, b string
		want bool
	}{
		{"1 S a-b", "1 S a-b", true},
		{"1 S a-d", "1 S b-c", true},
		{"1 S a-d", "1 S a-b", true},
		{"1 S a-d", "1 S c-d", true},
		{"1 S b-c", "1 S a-d", false},
		{"1 S a-b", "1 S a-b\x00", false},
		{"1 S a\x00-b", "1 S a-b", false},
		{"1 S a-b", "1 S b-c", false}, // they touch
		{"1 S a-c", "1 S b-d", false}, // they meet
		{"1 S b-d", "1 S a-c", false},
		{"1 S a-b", "1 S c-d", false},
		{"1 S a-", "1 S a-z", true}, // nothing as Hi
		{"1 S a-", "1 S a-", true},
		{"1 S a-", "1 S b-", true},
		{"1 S b-", "1 S a-", false},
		{"1 S a-\xff\xff", "1 S b-", false},
		{"1 S -", "1 S \xff-", true}, // nothing as Lo
		{"1 S -", "1 S -", true},
		{"1 S a-", "1 S -", false},
		{"1 S -b", "1 S -b", true},
		{"1 S -b", "1 S a-b", true},
		{"1 S -b", "1 S -", false},
		{"1 S a-b", "1 S -b", false},
	} {
		if got := Covers(of(c.a), of(c.b)); got != c.want {
			t.Errorf("Covers(%s, %s): %v, want %v", c.a, c.b, got, c.want)
		}
	}
}

// P14.1: Covers of any two ranges over all bounds, the wrong way round too.
func TestCoversOfAllBounds(t *testing.T) {
	x := of("1 S a-b")
	for _, a := range ranges() {
		for _, b := range ranges() {
			below := a[1] != "" && (b[1] == "" || strings.Compare(a[1], b[1]) == -1)
			want := strings.Compare(a[0], b[0]) != 1 && !below
			if got := Covers(at(x, a), at(x, b)); got != want {
				t.Errorf("Covers of %q and %q: %v, want %v", a, b, got, want)
			}
		}
	}
}

// P14.1: Covers of every pair of modes; of numbers that are none, too, each is
// as good as itself, and X as all.
func TestCoversByMode(t *testing.T) {
	covering := []string{"IS IS", "IX IX", "S S", "X X", "X IS", "X IX", "X S", "S IS", "IX IS"}
	for _, a := range numbers {
		for _, b := range numbers {
			want := a == b || slices.Contains(covering, named(a, b)) || a == api.X
			x, y := of("1 S a-c"), of("1 S a-b")
			x.Mode, y.Mode = a, b
			if got := Covers(x, y); got != want {
				t.Errorf("Covers of the modes %d and %d (%s): %v, want %v", a, b, named(a, b), got, want)
			}
		}
	}
}

// P14.1: Covers of unlike Levels and Txns.
func TestCoversByLevelAndTxn(t *testing.T) {
	for _, x := range []uint64{0, 1, 2, 1<<32 + 1, math.MaxUint64} {
		for _, y := range []uint64{0, 1, 2, 1<<32 + 1, math.MaxUint64} {
			for _, a := range []int{-1, api.Whole, api.Part, 2} {
				for _, b := range []int{-1, api.Whole, api.Part, 2} {
					p, q := api.Lock{Txn: x, Level: a, Mode: api.X}, api.Lock{Txn: y, Level: b, Mode: api.S}
					if got, want := Covers(p, q), x == y && a == b; got != want {
						t.Errorf("Covers(%v, %v): %v, want %v", p, q, got, want)
					}
				}
			}
		}
	}
}

// P14.1, P3: no bound and an empty one are the same.
func TestNoBoundAndAnEmptyOne(t *testing.T) {
	empty := api.Lock{Txn: 1, Mode: api.S, Lo: []byte{}, Hi: make([]byte, 0, 4)}
	none := api.Lock{Txn: 1, Mode: api.S}
	other := api.Lock{Txn: 2, Mode: api.S, Lo: []byte("a"), Hi: []byte("b")}
	for _, l := range []api.Lock{empty, none} {
		if Apart(l, other) || Apart(other, l) {
			t.Errorf("%v is apart from %v", l, other)
		}
		if !Covers(l, empty) || !Covers(l, none) {
			t.Errorf("%v doesn't cover all keys", l)
		}
	}
}
