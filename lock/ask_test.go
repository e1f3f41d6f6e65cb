package lock

import (
	"fmt"
	"math"
	"testing"

	"plenum/api"
)

// P14.2: each way in which Ask answers ErrRange, of a table with locks and
// waiting ones: nothing of it is changed.
func TestAskRange(t *testing.T) {
	good := of("1 S a-b")
	change := func(f func(l *api.Lock)) api.Lock {
		l := good
		f(&l)
		return l
	}
	bad := []api.Lock{{}, change(func(l *api.Lock) { l.Txn = 0 })}
	for _, level := range []int{math.MinInt, -2, -1, 2, 3, 4, 1 << 32, 1<<32 + 1, math.MaxInt} {
		bad = append(bad, change(func(l *api.Lock) { l.Level = level }))
	}
	for _, mode := range numbers {
		if mode < api.IS || mode > api.X {
			bad = append(bad, change(func(l *api.Lock) { l.Mode = mode }))
		}
	}
	for _, b := range [][2]string{{"a", "a"}, {"b", "a"}, {"a", "\x00"}, {"aa", "a"}, {"\xff", "a"}, {"\xff", "\xff"}, {"10", "1"}} {
		bad = append(bad, at(good, b))
	}
	for _, l := range bad {
		if got := answer(New().Ask(l)); got != "range" {
			t.Errorf("Ask(%v) of an empty table: %s", l, got)
		}
	}
	table := New()
	calls(t, table, "1 X - -> true", "2 S a-b -> false", "3 X a-b whole -> true", "1 IS a-b whole -> false")
	for _, l := range bad {
		for _, txn := range []uint64{1, 2, 3} {
			if l.Txn != 0 {
				l.Txn = txn
			}
			if got := answer(table.Ask(l)); got != "range" {
				t.Errorf("Ask(%v): %s", l, got)
			}
		}
	}
	stands(t, table, "1 X -, 3 X a-b whole", "2 S a-b, 1 IS a-b whole", "2>1 1>3")
}

// P14.2: what just isn't ErrRange.
func TestAskInRange(t *testing.T) {
	for _, level := range []int{api.Whole, api.Part} {
		for mode := api.IS; mode <= api.X; mode++ {
			for _, b := range [][2]string{{"", ""}, {"a", ""}, {"\xff\xff", ""}, {"", "\x00"}, {"a", "a\x00"}, {"a", "b"}, {"9", "\xff"}} {
				for _, txn := range []uint64{1, 2, 1 << 32, math.MaxUint64} {
					l := at(api.Lock{Txn: txn, Level: level, Mode: mode}, b)
					table := New()
					if got := answer(table.Ask(l)); got != "true" {
						t.Errorf("Ask(%v): %s", l, got)
					}
					stands(t, table, text(l), "", "")
				}
			}
		}
	}
}

// P14.2: for each pair of modes another one's lock is held at once just if they
// fit, at both levels; never if they are apart.
func TestAskOfEachPairOfModes(t *testing.T) {
	for _, level := range []string{"", " whole"} {
		for a := api.IS; a <= api.X; a++ {
			for b := api.IS; b <= api.X; b++ {
				first, second := fmt.Sprintf("1 %s a-c%s", modeNames[a], level), fmt.Sprintf("2 %s b-d%s", modeNames[b], level)
				table := New()
				calls(t, table, first+" -> true", fmt.Sprintf("%s -> %v", second, Fits(a, b)))
				if Fits(a, b) {
					stands(t, table, first+", "+second, "", "")
				} else {
					stands(t, table, first, second, "2>1")
				}
				table = New()
				calls(t, table, first+" -> true", fmt.Sprintf("2 %s c-d%s -> true", modeNames[b], level))
				table = New()
				calls(t, table, first+" -> true", fmt.Sprintf("1 %s b-d%s -> true", modeNames[b], level))
			}
		}
	}
	table := New()
	calls(t, table, "1 X a-b -> true", "2 X a-b whole -> true", "1 X - whole -> false", "3 X - -> false")
	stands(t, table, "1 X a-b, 2 X a-b whole", "1 X - whole, 3 X -", "1>2 3>1")
}

// P14.2: a lock that is covered is held already: nothing is added.
func TestCovered(t *testing.T) {
	table := New()
	calls(t, table, "1 X a-m -> true", "1 X a-m -> true", "1 S b-c -> true", "1 IX a-b -> true", "1 IS l-m -> true")
	stands(t, table, "1 X a-m", "", "")
	calls(t, table, "2 S m-z -> true", "2 IS n-o -> true", "2 S m-z -> true", "2 IX n-o -> true", "2 IX n-o -> true")
	stands(t, table, "1 X a-m, 2 S m-z, 2 IX n-o", "", "")
	calls(t, table, "3 IX a-b whole -> true", "3 IS a-b whole -> true", "3 S a-b whole -> true", "3 X a-b whole -> true", "3 X a-b -> false")
	stands(t, table, "1 X a-m, 2 S m-z, 2 IX n-o, 3 IX a-b whole, 3 S a-b whole, 3 X a-b whole", "3 X a-b", "3>1")
}

// P14.2: a lock is covered by one that is held, not by several together, nor by
// another one's.
func TestNotCovered(t *testing.T) {
	table := New()
	calls(t, table, "1 S a-c -> true", "1 S c-e -> true", "1 S a-e -> true", "2 S a-e -> true", "1 S a- -> true", "1 S -a -> true")
	stands(t, table, "1 S a-c, 1 S c-e, 1 S a-e, 2 S a-e, 1 S a-, 1 S -a", "", "")
}

// P14.2: what is covered is true whoever waits, and whatever the transaction
// itself waits for: that it goes on waiting for.
func TestCoveredWhileOthersWait(t *testing.T) {
	table := New()
	calls(t, table, "1 S a-m -> true", "2 S a-z -> true", "3 X a-z -> false", "1 S b-c -> true", "1 IS a-m -> true", "2 IS y-z -> true")
	stands(t, table, "1 S a-m, 2 S a-z", "3 X a-z", "3>1 3>2")
	calls(t, table, "1 X a-b -> false", "1 S b-c -> true", "1 S a-m -> true")
	stands(t, table, "1 S a-m, 2 S a-z", "3 X a-z, 1 X a-b", "3>1 3>2 1>2")
}

// P14.2: whoever asks again while waiting stays where they stood, till nothing
// stands in the way any more.
func TestAskedAgain(t *testing.T) {
	table := New()
	calls(t, table, "1 X a-z -> true", "2 X a-b -> false", "3 S a-c -> false", "4 X b-c -> false")
	for range 3 {
		calls(t, table, "2 X a-b -> false", "4 X b-c -> false", "3 S a-c -> false")
		stands(t, table, "1 X a-z", "2 X a-b, 3 S a-c, 4 X b-c", "2>1 3>1 3>2 4>1 4>3")
	}
	calls(t, table, "free 1 -> 1", "4 X b-c -> false", "3 S a-c -> false")
	stands(t, table, "", "2 X a-b, 3 S a-c, 4 X b-c", "3>2 4>3")
	calls(t, table, "2 X a-b -> true", "3 S a-c -> false", "4 X b-c -> false")
	stands(t, table, "2 X a-b", "3 S a-c, 4 X b-c", "3>2 4>3")
	calls(t, table, "free 2 -> 1", "4 X b-c -> false", "3 S a-c -> true", "4 X b-c -> false", "free 3 -> 1", "4 X b-c -> true", "4 X b-c -> true")
	stands(t, table, "4 X b-c", "", "")
}

// P14.2, P3: a lock without a bound and one with an empty bound is the same one
// that waits.
func TestAskedAgainWithAnEmptyBound(t *testing.T) {
	table := New()
	calls(t, table, "1 X - -> true")
	table.Ask(api.Lock{Txn: 2, Level: api.Part, Mode: api.S})
	table.Ask(api.Lock{Txn: 3, Level: api.Part, Mode: api.S, Lo: []byte{}, Hi: []byte{}})
	table.Ask(api.Lock{Txn: 2, Level: api.Part, Mode: api.S, Lo: make([]byte, 0, 3), Hi: []byte{}})
	stands(t, table, "1 X -", "2 S -, 3 S -", "2>1 3>1")
}

// P14.2: the lock that one waits for is another one when another one asks.
func TestAskedByAnother(t *testing.T) {
	table := New()
	calls(t, table, "1 S a-b -> true", "2 X a-b -> false", "3 X a-b -> false", "2 X a-b -> false", "4 S a-b -> false")
	stands(t, table, "1 S a-b", "2 X a-b, 3 X a-b, 4 S a-b", "2>1 3>1 3>2 4>2 4>3")
	calls(t, table, "free 1 -> 1", "3 X a-b -> false", "2 X a-b -> true", "3 X a-b -> false", "5 IS a-b -> false")
	stands(t, table, "2 X a-b", "3 X a-b, 4 S a-b, 5 IS a-b", "3>2 4>2 4>3 5>2 5>3")
}

// P14.2: whoever waits for a lock and asks for another one doesn't wait for the
// first one any more, whatever becomes of the other one.
func TestAnotherLockAskedFor(t *testing.T) {
	for _, c := range []struct{ call, held, waiting, edges string }{
		{"2 X c-d -> true", "1 X a-b, 9 S e-f, 2 X c-d", "3 S a-b", "3>1"},
		{"2 X e-f -> false", "1 X a-b, 9 S e-f", "3 S a-b, 2 X e-f", "3>1 2>9"},
		{"2 S a-b -> false", "1 X a-b, 9 S e-f", "3 S a-b, 2 S a-b", "3>1 2>1"},
		{"2 X a-b -> false", "1 X a-b, 9 S e-f", "2 X a-b, 3 S a-b", "2>1 3>1 3>2"}, // the same one
		{"2 X a-c -> false", "1 X a-b, 9 S e-f", "3 S a-b, 2 X a-c", "3>1 2>1 2>3"},
		{"2 X -b -> false", "1 X a-b, 9 S e-f", "3 S a-b, 2 X -b", "3>1 2>1 2>3"},
		{"2 X a- -> false", "1 X a-b, 9 S e-f", "3 S a-b, 2 X a-", "3>1 2>1 2>9 2>3"},
		{"2 X a-b whole -> true", "1 X a-b, 9 S e-f, 2 X a-b whole", "3 S a-b", "3>1"},
	} {
		table := New()
		calls(t, table, "1 X a-b -> true", "9 S e-f -> true", "2 X a-b -> false", "3 S a-b -> false", c.call)
		stands(t, table, c.held, c.waiting, c.edges)
	}
}

// P14.2: the same keys at the other Level are another lock.
func TestTheOtherLevelAskedFor(t *testing.T) {
	table := New()
	calls(t, table, "1 X a-b -> true", "9 X a-b whole -> true", "2 X a-b -> false", "3 S a-b -> false", "2 X a-b whole -> false")
	stands(t, table, "1 X a-b, 9 X a-b whole", "3 S a-b, 2 X a-b whole", "3>1 2>9")
	calls(t, table, "free 1 -> 1", "2 X a-b whole -> false", "3 S a-b -> true", "2 X a-b -> false")
	stands(t, table, "9 X a-b whole, 3 S a-b", "2 X a-b", "2>3")
}

// P14.2: whoever comes back to the first lock waits behind all others.
func TestBackToTheFirstLock(t *testing.T) {
	table := New()
	calls(t, table, "1 X a-c -> true", "2 X a-b -> false", "3 X a-b -> false", "2 X b-c -> false", "2 X a-b -> false")
	stands(t, table, "1 X a-c", "3 X a-b, 2 X a-b", "3>1 2>1 2>3")
	calls(t, table, "free 1 -> 1", "2 X a-b -> false", "3 X a-b -> true")
}

// P14.2: of those that wait only the ones ahead stand in the way: of whoever
// doesn't wait all of them.
func TestOnlyThoseAhead(t *testing.T) {
	table := New()
	calls(t, table, "1 X a-b -> true", "2 S a-b -> false", "3 X a-b -> false", "4 S a-b -> false", "free 1 -> 1",
		"5 S a-b -> false", "4 S a-b -> false", "3 X a-b -> false", "2 S a-b -> true", "6 IS a-b -> false")
	stands(t, table, "2 S a-b", "3 X a-b, 4 S a-b, 5 S a-b, 6 IS a-b", "3>2 4>3 5>3 6>3")
	calls(t, table, "free 3 -> 0", "6 IS a-b -> true", "5 S a-b -> true", "4 S a-b -> true")
	stands(t, table, "2 S a-b, 6 IS a-b, 5 S a-b, 4 S a-b", "", "")
}

// P14.2: those that wait stand in the way only where they meet and don't fit.
func TestThoseAheadThatDoNotStandInTheWay(t *testing.T) {
	table := New()
	calls(t, table, "1 X a-c -> true", "2 X a-b -> false", "3 X d-e -> true", "4 S b-d -> false", "5 S c-d -> true", "6 X c-d whole -> true", "7 IX c-d -> false")
	stands(t, table, "1 X a-c, 3 X d-e, 5 S c-d, 6 X c-d whole", "2 X a-b, 4 S b-d, 7 IX c-d", "2>1 4>1 7>5 7>4")
}

// P14.2: whoever holds a lock of that Level that meets l's keys goes ahead of
// those that wait; whoever doesn't, doesn't.
func TestGoesAhead(t *testing.T) {
	start := []string{"1 IS a-c -> true", "2 IX a-z -> true", "3 S a-z -> false"}
	for _, c := range []struct{ call, held, waiting, edges string }{
		{"1 IX a-c -> true", "1 IX a-c", "3 S a-z", "3>2 3>1"},
		{"1 IX b-e -> true", "1 IX b-e", "3 S a-z", "3>2 3>1"},   // they meet
		{"1 IX -e -> true", "1 IX -e", "3 S a-z", "3>2 3>1"},     // the held one is enclosed
		{"1 IX b- -> true", "1 IX b-", "3 S a-z", "3>2 3>1"},     // nothing as Hi
		{"1 IX b-bb -> true", "1 IX b-bb", "3 S a-z", "3>2 3>1"}, // the held one encloses
		{"1 IX c-e -> false", "", "3 S a-z, 1 IX c-e", "3>2 1>3"},
		{"1 IX d-e -> false", "", "3 S a-z, 1 IX d-e", "3>2 1>3"},
		{"1 IX c- -> false", "", "3 S a-z, 1 IX c-", "3>2 1>3"},
		{"4 IX a-c -> false", "", "3 S a-z, 4 IX a-c", "3>2 4>3"}, // another one holds it
		{"1 IX - whole -> true", "1 IX - whole", "3 S a-z", "3>2"},
	} {
		table := New()
		calls(t, table, start...)
		calls(t, table, c.call)
		held := "1 IS a-c, 2 IX a-z"
		if c.held != "" {
			held += ", " + c.held
		}
		stands(t, table, held, c.waiting, c.edges)
	}
}

// P14.2: a lock of the other Level lets nobody go ahead, and no lock that is
// only waited for does.
func TestDoesNotGoAhead(t *testing.T) {
	table := New()
	calls(t, table, "1 S a-c whole -> true", "2 S a-z -> true", "3 X a-z -> false", "1 S a-c -> false")
	stands(t, table, "1 S a-c whole, 2 S a-z", "3 X a-z, 1 S a-c", "3>2 1>3")
	calls(t, table, "1 S a-b -> false")
	stands(t, table, "1 S a-c whole, 2 S a-z", "3 X a-z, 1 S a-b", "3>2 1>3")
}

// P14.2: who goes ahead of those that wait still waits for those that hold: and
// nobody that waits stands in the way of it then.
func TestGoesAheadButWaits(t *testing.T) {
	table := New()
	calls(t, table, "1 S a-c -> true", "2 S a-z -> true", "3 X x-z -> false", "4 X a-b -> false", "1 X b-y -> false")
	stands(t, table, "1 S a-c, 2 S a-z", "3 X x-z, 4 X a-b, 1 X b-y", "3>2 4>1 4>2 1>2")
	calls(t, table, "free 2 -> 1", "1 X b-y -> true", "3 X x-z -> false", "4 X a-b -> false")
	stands(t, table, "1 S a-c, 1 X b-y", "3 X x-z, 4 X a-b", "3>1 4>1")
}
