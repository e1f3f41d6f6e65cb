package lock

import (
	"math"
	"testing"

	"plenum/api"
)

// P14.3: Free of one that holds several: the others stay in their order, and
// whoever waits goes on waiting till it asks again.
func TestFreeOfOneThatHolds(t *testing.T) {
	table := New()
	calls(t, table, "1 S a-b -> true", "2 S a-c -> true", "1 X d-e -> true", "3 IS a-b -> true", "1 IX x- whole -> true", "4 S d-e -> false",
		"free 1 -> 3")
	stands(t, table, "2 S a-c, 3 IS a-b", "4 S d-e", "")
	calls(t, table, "free 1 -> 0", "4 S d-e -> true", "1 S d-e -> true")
	stands(t, table, "2 S a-c, 3 IS a-b, 4 S d-e, 1 S d-e", "", "")
}

// P14.3: Free of one that waits: nothing was held; whoever stood behind it moves
// up.
func TestFreeOfOneThatWaits(t *testing.T) {
	table := New()
	calls(t, table, "1 S a-b -> true", "2 X a-b -> false", "3 S a-b -> false", "4 X a-b -> false", "free 2 -> 0")
	stands(t, table, "1 S a-b", "3 S a-b, 4 X a-b", "4>1 4>3")
	calls(t, table, "4 X a-b -> false", "3 S a-b -> true", "free 4 -> 0", "free 4 -> 0", "2 S a-b -> true")
	stands(t, table, "1 S a-b, 3 S a-b, 2 S a-b", "", "")
}

// P14.3: Free of one that holds and waits.
func TestFreeOfOneThatDoesBoth(t *testing.T) {
	table := New()
	calls(t, table, "1 X a-b -> true", "2 X b-c -> true", "2 S c-d -> true", "3 S b-c -> false", "2 X a-b -> false", "4 S a-b -> false", "free 2 -> 2")
	stands(t, table, "1 X a-b", "3 S b-c, 4 S a-b", "4>1")
	calls(t, table, "3 S b-c -> true", "free 2 -> 0", "free 1 -> 1", "4 S a-b -> true")
	stands(t, table, "3 S b-c, 4 S a-b", "", "")
}

// P14.3: Free of one that does neither changes nothing; nobody is transaction 0.
func TestFreeOfOneThatDoesNeither(t *testing.T) {
	table := New()
	calls(t, table, "1 X a-b -> true", "2 S a-b -> false", "4294967297 X c-d -> true",
		"free 0 -> 0", "free 3 -> 0", "free 4294967298 -> 0", "free 18446744073709551615 -> 0")
	stands(t, table, "1 X a-b, 4294967297 X c-d", "2 S a-b", "2>1")
	calls(t, table, "18446744073709551615 X e-f -> true", "free 18446744073709551615 -> 1", "free 4294967297 -> 1")
	stands(t, table, "1 X a-b", "2 S a-b", "2>1")
}

// P14.3: Free of one of two that are waited for.
func TestFreeOfOneOfTwo(t *testing.T) {
	table := New()
	calls(t, table, "1 S a-b -> true", "2 S a-b -> true", "3 X a-b -> false", "free 1 -> 1", "3 X a-b -> false")
	stands(t, table, "2 S a-b", "3 X a-b", "3>2")
	calls(t, table, "free 2 -> 1", "3 X a-b -> true")
}

// P14.3: Held stands in the order in which they came to be held, Waiting in that
// in which they came to wait; neither by number, key nor mode.
func TestOrderOfHeldAndWaiting(t *testing.T) {
	table := New()
	calls(t, table, "7 X m-n -> true", "3 S x-z -> true", "9 IS a-b whole -> true", "3 S a-b -> true", "5 IX p-q -> true", "1 IS a-b -> true")
	calls(t, table, "8 X a-b -> false", "2 S m-n -> false", "6 X x-z -> false", "4 IS m-n -> false")
	stands(t, table, "7 X m-n, 3 S x-z, 9 IS a-b whole, 3 S a-b, 5 IX p-q, 1 IS a-b", "8 X a-b, 2 S m-n, 6 X x-z, 4 IS m-n", "8>3 8>1 2>7 6>3 4>7")
	calls(t, table, "free 7 -> 1", "4 IS m-n -> true", "2 S m-n -> true")
	stands(t, table, "3 S x-z, 9 IS a-b whole, 3 S a-b, 5 IX p-q, 1 IS a-b, 4 IS m-n, 2 S m-n", "8 X a-b, 6 X x-z", "8>3 8>1 6>3")
	calls(t, table, "7 X m-n -> false", "8 X m-n -> false", "8 X a-b -> false")
	stands(t, table, "3 S x-z, 9 IS a-b whole, 3 S a-b, 5 IX p-q, 1 IS a-b, 4 IS m-n, 2 S m-n", "6 X x-z, 7 X m-n, 8 X a-b", "6>3 7>4 7>2 8>3 8>1")
}

// P14.3: of each that waits the edges stand in the order of the locks in its way,
// held ones ahead; to each transaction once, where it stands first.
func TestOrderOfEdges(t *testing.T) {
	table := New()
	calls(t, table, "5 S a-b -> true", "2 S b-c -> true", "5 S c-d -> true", "8 IS a-d -> true", "2 S d-e -> true",
		"9 X d-e -> false", "2 X a-f -> false", "8 IX y-z -> true", "3 IX a-y -> false", "7 S x-z -> false", "1 X a- -> false")
	stands(t, table, "5 S a-b, 2 S b-c, 5 S c-d, 8 IS a-d, 2 S d-e, 8 IX y-z", "9 X d-e, 2 X a-f, 3 IX a-y, 7 S x-z, 1 X a-",
		"9>2 2>5 2>8 3>5 3>2 3>9 7>8 7>3 1>5 1>2 1>8 1>9 1>3 1>7")
}

// P14.3: whoever holds a lock there has no edges to those that wait ahead, and
// others have.
func TestEdgesOfOneThatGoesAhead(t *testing.T) {
	table := New()
	calls(t, table, "1 IS a-m -> true", "2 S a-z -> true", "3 X a-b -> false", "4 X x-y -> false", "1 X b-y -> false", "5 X a-z -> false")
	stands(t, table, "1 IS a-m, 2 S a-z", "3 X a-b, 4 X x-y, 1 X b-y, 5 X a-z", "3>1 3>2 4>2 1>2 5>1 5>2 5>3 5>4")
}

// P14.3: a Table that nobody made: ErrRange, nothing.
func TestATableThatNobodyMade(t *testing.T) {
	for name, table := range map[string]*Table{"nil": nil, "zero": {}, "new": new(Table)} {
		for range 2 {
			for _, l := range []api.Lock{of("1 S a-b"), of("1 X - whole"), of("2 X a-b"), of("1 S b-a"), {}, {Txn: 1, Level: 9, Mode: 9}} {
				if is, e := table.Ask(l); is || e != api.ErrRange {
					t.Errorf("%s: Ask(%v): %v, %d", name, l, is, e)
				}
			}
			for _, txn := range []uint64{0, 1, 2, math.MaxUint64} {
				if n := table.Free(txn); n != 0 {
					t.Errorf("%s: Free(%d): %d", name, txn, n)
				}
			}
			if len(table.Held()) != 0 || len(table.Waiting()) != 0 || len(table.Edges()) != 0 {
				t.Errorf("%s: %v, %v, %v", name, table.Held(), table.Waiting(), table.Edges())
			}
		}
	}
}
