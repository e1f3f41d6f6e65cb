package lock

import (
	"fmt"
	"strings"
	"testing"

	"plenum/api"
)

// P14.2, P14.5: a ring of two is refused: whoever would close it waits no more;
// the other one does, and goes on when it can.
func TestRingOfTwo(t *testing.T) {
	table := New()
	calls(t, table, "1 X a-b -> true", "2 X b-c -> true", "1 X b-c -> false", "2 X a-b -> deadlock")
	stands(t, table, "1 X a-b, 2 X b-c", "1 X b-c", "1>2")
	calls(t, table, "2 X a-b -> deadlock", "1 X b-c -> false", "2 S a-b -> deadlock", "free 2 -> 1", "1 X b-c -> true")
	stands(t, table, "1 X a-b, 1 X b-c", "", "")
}

// P14.2, P14.5: two that hold the same in common and both want more.
func TestRingOfTwoThatWantMore(t *testing.T) {
	table := New()
	calls(t, table, "1 S a-b -> true", "2 S a-b -> true", "1 X a-b -> false", "2 X a-b -> deadlock", "2 S a-b -> true")
	stands(t, table, "1 S a-b, 2 S a-b", "1 X a-b", "1>2")
	calls(t, table, "free 2 -> 1", "1 X a-b -> true")
	stands(t, table, "1 S a-b, 1 X a-b", "", "")
}

// P14.2, P14.5: rings of three and more, in which each waits for what the next
// one holds: the last one is refused, whoever it is.
func TestRingsOfMore(t *testing.T) {
	for n := 3; n <= 12; n++ {
		table := New()
		lock := func(txn, place int) string {
			return fmt.Sprintf("%d X %c-%c", txn, 'a'+place-1, 'a'+place)
		}
		var held, waiting, edges []string
		for i := 1; i <= n; i++ {
			calls(t, table, lock(i, i)+" -> true")
			held = append(held, lock(i, i))
		}
		for i := 1; i < n; i++ {
			calls(t, table, lock(i, i+1)+" -> false")
			waiting = append(waiting, lock(i, i+1))
			edges = append(edges, fmt.Sprintf("%d>%d", i, i+1))
		}
		calls(t, table, lock(n, 1)+" -> deadlock", lock(n, 2)+" -> deadlock", lock(n, n)+" -> true")
		stands(t, table, strings.Join(held, ", "), strings.Join(waiting, ", "), strings.Join(edges, " "))
		for i := n; i > 1; i-- {
			calls(t, table, fmt.Sprintf("free %d -> %d", i, min(2, n-i+1)), lock(i-1, i)+" -> true")
		}
		stands(t, table, fmt.Sprintf("%s, %s", lock(1, 1), lock(1, 2)), "", "")
	}
}

// P14.2, P14.5: a ring that goes by one that only waits ahead.
func TestRingByThoseThatWait(t *testing.T) {
	table := New()
	calls(t, table, "1 S a-c -> true", "2 X b-d -> false", "1 S c-d -> deadlock")
	stands(t, table, "1 S a-c", "2 X b-d", "2>1")
	calls(t, table, "3 S c-d -> false", "1 X d-e -> true", "3 X d-e -> false", "1 S c-d -> deadlock", "3 S d-e -> false")
	stands(t, table, "1 S a-c, 1 X d-e", "2 X b-d, 3 S d-e", "2>1 3>1")
	calls(t, table, "free 2 -> 0", "1 S c-d -> true")

	table = New()
	calls(t, table, "1 S a-b -> true", "3 X d-e -> true", "2 X a-c -> false", "3 S b-c -> false", "1 X d-e -> deadlock")
	stands(t, table, "1 S a-b, 3 X d-e", "2 X a-c, 3 S b-c", "2>1 3>2")
	calls(t, table, "free 2 -> 0", "1 X d-e -> false", "3 S b-c -> true", "free 3 -> 2", "1 X d-e -> true")
}

// P14.2: what waits behind one that was refused goes on as if that had never
// waited.
func TestBehindARefusedOne(t *testing.T) {
	table := New()
	calls(t, table, "1 S a-b -> true", "2 X c-d -> true", "3 X c-e -> false", "1 X c-d -> false", "2 X a-b -> deadlock", "4 S a-b -> true", "5 IX d-e -> false")
	stands(t, table, "1 S a-b, 2 X c-d, 4 S a-b", "3 X c-e, 1 X c-d, 5 IX d-e", "3>2 1>2 1>3 5>3")
	calls(t, table, "free 2 -> 1", "1 X c-d -> false", "3 X c-e -> true", "5 IX d-e -> false", "free 3 -> 1", "1 X c-d -> true", "5 IX d-e -> true")
	stands(t, table, "1 S a-b, 4 S a-b, 1 X c-d, 5 IX d-e", "", "")
}

// P14.2: who is refused doesn't wait for what it waited for ahead, either; who
// waited behind it moves up.
func TestRefusedWhileItWaited(t *testing.T) {
	table := New()
	calls(t, table, "1 S a-b -> true", "2 S b-c -> true", "9 S x-z -> true", "1 X x-z -> false", "4 S y-z -> false", "2 X a-b -> false")
	stands(t, table, "1 S a-b, 2 S b-c, 9 S x-z", "1 X x-z, 4 S y-z, 2 X a-b", "1>9 4>1 2>1")
	calls(t, table, "1 X b-c -> deadlock")
	stands(t, table, "1 S a-b, 2 S b-c, 9 S x-z", "4 S y-z, 2 X a-b", "2>1")
	calls(t, table, "4 S y-z -> true", "2 X a-b -> false", "free 1 -> 1", "2 X a-b -> true")
}

// P14.2: rings that there would have been with what is waited for no more aren't
// refused.
func TestNoRingAnyMore(t *testing.T) {
	table := New()
	calls(t, table, "1 X a-b -> true", "2 X b-c -> true", "9 X y-z -> true", "1 X b-c -> false", "1 X y-z -> false", "2 X a-b -> false")
	stands(t, table, "1 X a-b, 2 X b-c, 9 X y-z", "1 X y-z, 2 X a-b", "1>9 2>1")
	calls(t, table, "1 X b-c -> deadlock", "free 9 -> 1", "1 X y-z -> true", "1 X b-c -> deadlock", "free 2 -> 1", "1 X b-c -> true")
}

// P14.2: many that wait for each other but not in a ring aren't refused.
func TestNoRing(t *testing.T) {
	table := New()
	calls(t, table, "1 X a-b -> true", "2 X b-c -> true", "3 X c-d -> true", "4 X d-e -> true",
		"3 X d-e -> false", "2 X c-d -> false", "1 X b-d -> false", "5 S a-e -> false", "4 X e-f -> true")
	stands(t, table, "1 X a-b, 2 X b-c, 3 X c-d, 4 X d-e, 4 X e-f", "3 X d-e, 2 X c-d, 1 X b-d, 5 S a-e",
		"3>4 2>3 1>2 1>3 5>1 5>2 5>3 5>4")
	calls(t, table, "free 4 -> 2", "5 S a-e -> false", "1 X b-d -> false", "3 X d-e -> true", "free 3 -> 2", "2 X c-d -> true", "free 2 -> 2", "1 X b-d -> true")
}

// full answers a table in which 400 locks are held: 399 of transaction 1, then
// one of transaction 2.
func full(t *testing.T) *Table {
	t.Helper()
	table := New()
	for i := range 399 {
		calls(t, table, fmt.Sprintf("1 S %03d-%03d -> true", i, i+1))
	}
	calls(t, table, "2 S a-b -> true")
	if n := len(table.Held()); n != 400 || api.MaxLocks != 400 {
		t.Fatalf("%d are held, want 400", n)
	}
	return table
}

// P14.2: where 400 are held, one more is ErrLocks: whoever asks for it.
func TestFull(t *testing.T) {
	table := full(t)
	calls(t, table, "3 X c-d -> locks", "1 S c-d -> locks", "2 X a-b -> locks", "3 S a-b -> locks", "3 IS a-b whole -> locks", "1 IX 000-001 -> locks")
	if len(table.Held()) != 400 || len(table.Waiting()) != 0 {
		t.Errorf("%d are held, %s wait", len(table.Held()), texts(table.Waiting()))
	}
	calls(t, table, "free 2 -> 1", "3 X c-d -> true", "4 X e-f -> locks", "free 1 -> 399", "4 X e-f -> true")
	stands(t, table, "3 X c-d, 4 X e-f", "", "")
}

// P14.2, P4: where 400 are held, what comes ahead of ErrLocks is answered first.
func TestFullButAnsweredOtherwise(t *testing.T) {
	table := full(t)
	calls(t, table, "1 S 007-008 -> true", "2 IS a-aa -> true", "3 S b-a -> range", "3 X a-b -> false", "3 X a-b -> false")
	if got := texts(table.Waiting()); got != "3 X a-b" {
		t.Errorf("waiting: %s", got)
	}
	calls(t, table, "1 S c-d -> locks", "2 X 000-001 -> false", "1 X a-b -> deadlock")
	if got, edges := texts(table.Waiting()), edgeTexts(table.Edges()); got != "3 X a-b, 2 X 000-001" || edges != "3>2 2>1" {
		t.Errorf("waiting: %s; edges: %s", got, edges)
	}
}

// P14.2: who waits and gets ErrLocks doesn't wait any more: neither for that
// lock nor for the one that it waited for.
func TestFullForOneThatWaits(t *testing.T) {
	table := full(t)
	calls(t, table, "3 X a-b -> false", "4 X a-c -> false", "3 X 400-500 -> locks")
	if got := texts(table.Waiting()); got != "4 X a-c" {
		t.Errorf("waiting: %s", got)
	}
	calls(t, table, "free 2 -> 1", "5 S x-z -> true", "6 S x-z -> locks", "4 X a-c -> locks", "3 S a-c -> locks")
	if got := texts(table.Waiting()); got != "" {
		t.Errorf("waiting: %s", got)
	}
	calls(t, table, "free 5 -> 1", "4 X a-c -> true", "3 S a-c -> false")
	if n := len(table.Held()); n != 400 {
		t.Errorf("%d are held", n)
	}
}
