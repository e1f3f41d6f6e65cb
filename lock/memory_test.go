package lock

import (
	"slices"
	"testing"

	"plenum/api"
)

// roomy answers a lock whose bounds have room behind their length, with bytes in
// it.
func roomy(txn uint64, mode int, lo, hi string) api.Lock {
	with := func(s string) []byte { return []byte(s + "zzzz")[:len(s)] }
	return api.Lock{Txn: txn, Level: api.Part, Mode: mode, Lo: with(lo), Hi: with(hi)}
}

// spoil changes the lock's bounds, up to their capacity.
func spoil(l api.Lock) {
	for _, b := range [][]byte{l.Lo, l.Hi} {
		for i := range b[:cap(b)] {
			b[:cap(b)][i] = '!'
		}
	}
}

// spoilAll changes all that the locks hold, up to the list's capacity.
func spoilAll(l []api.Lock) {
	for _, x := range l {
		spoil(x)
	}
	for i := range l[:cap(l)] {
		l[:cap(l)][i] = api.Lock{Txn: 77, Mode: api.X, Lo: []byte("spoilt")}
	}
}

// spoilEdges changes all edges, up to the list's capacity.
func spoilEdges(l []api.Edge) {
	for i := range l[:cap(l)] {
		l[:cap(l)][i] = api.Edge{From: 77, To: 77}
	}
}

// some answers a table with locks that are held and that are waited for, and
// what it tells.
func some(t *testing.T) (*Table, [3]string) {
	t.Helper()
	table := New()
	calls(t, table, "1 S a-c -> true", "2 S b- -> true", "3 IX - whole -> true", "4 X a-b -> false", "5 X - -> false", "1 X b-d -> false")
	want := [3]string{"1 S a-c, 2 S b-, 3 IX - whole", "4 X a-b, 5 X -, 1 X b-d", "4>1 5>1 5>2 5>4 1>2"}
	return table, want
}

// P2: nothing that is handed in is changed, neither what lies behind a length:
// whatever is answered.
func TestNothingHandedInIsChanged(t *testing.T) {
	table := New()
	handed := []api.Lock{
		roomy(1, api.X, "a", "b"),       // true
		roomy(1, api.X, "a", "b"),       // true: covered
		roomy(2, api.X, "b", "c"),       // true
		roomy(1, api.S, "b", "c"),       // false
		roomy(1, api.S, "b", "c"),       // false: it waits already
		roomy(2, api.S, "a", "b"),       // ErrDeadlock
		roomy(3, api.S, "b", "a"),       // ErrRange
		roomy(3, api.S, "", ""),         // false
		roomy(3, api.X, "x", "y"),       // true
		roomy(0, api.S, "", "a"),        // ErrRange
		roomy(4, api.S, "\xff", "\xff"), // ErrRange
	}
	same := make([]api.Lock, len(handed))
	for i, l := range handed {
		same[i] = l
		same[i].Lo, same[i].Hi = slices.Clone(l.Lo[:cap(l.Lo)]), slices.Clone(l.Hi[:cap(l.Hi)])
	}
	for _, l := range handed {
		table.Ask(l)
		for _, x := range handed {
			Apart(l, x)
			Covers(l, x)
		}
	}
	table.Free(2)
	table.Ask(handed[3])
	table.Free(1)
	table.Free(3)
	for i, l := range handed {
		if string(l.Lo[:cap(l.Lo)]) != string(same[i].Lo) || string(l.Hi[:cap(l.Hi)]) != string(same[i].Hi) {
			t.Errorf("lock %d was changed: %q and %q", i, l.Lo[:cap(l.Lo)], l.Hi[:cap(l.Hi)])
		}
	}
}

// P2: what is kept isn't changed by a change of what was handed in: of a lock
// that is held, that waits, and that waits and is held then.
func TestKeptApartFromWhatWasHandedIn(t *testing.T) {
	table := New()
	ask := func(l api.Lock, want string) {
		t.Helper()
		if got := answer(table.Ask(l)); got != want {
			t.Errorf("Ask(%v): %s, want %s", l, got, want)
		}
		spoil(l)
	}
	ask(roomy(1, api.X, "a", "b"), "true")
	ask(roomy(2, api.S, "a", "c"), "false")
	ask(roomy(3, api.S, "", ""), "false")
	stands(t, table, "1 X a-b", "2 S a-c, 3 S -", "2>1 3>1")
	ask(roomy(2, api.S, "a", "c"), "false")
	stands(t, table, "1 X a-b", "2 S a-c, 3 S -", "2>1 3>1")
	calls(t, table, "free 1 -> 1")
	ask(roomy(2, api.S, "a", "c"), "true")
	ask(roomy(2, api.S, "b", "c"), "true")
	stands(t, table, "2 S a-c", "3 S -", "")
	ask(roomy(3, api.S, "", ""), "true")
	stands(t, table, "2 S a-c, 3 S -", "", "")
}

// P2: what is kept isn't changed by a change of what was handed out, nor is
// another answer.
func TestKeptApartFromWhatWasHandedOut(t *testing.T) {
	table, want := some(t)
	for range 2 {
		held, waiting, edges := table.Held(), table.Waiting(), table.Edges()
		heldToo, waitingToo, edgesToo := table.Held(), table.Waiting(), table.Edges()
		spoilAll(held)
		spoilAll(waiting)
		spoilEdges(edges)
		_ = append(append(held[:0], of("9 X a-b")), of("9 X b-c"))
		stands(t, table, want[0], want[1], want[2])
		if texts(heldToo) != want[0] || texts(waitingToo) != want[1] || edgeTexts(edgesToo) != want[2] {
			t.Errorf("other answers were changed: %v, %v, %v", heldToo, waitingToo, edgesToo)
		}
	}
	calls(t, table, "free 1 -> 1", "4 X a-b -> true", "5 X - -> false", "2 S x- -> true")
	stands(t, table, "2 S b-, 3 IX - whole, 4 X a-b", "5 X -", "5>2 5>4")
}

// P2: no two bounds of one answer share memory.
func TestBoundsOfOneAnswerAreApart(t *testing.T) {
	table, _ := some(t)
	for _, tell := range []func() []api.Lock{table.Held, table.Waiting} {
		for i := range tell() {
			got, want := tell(), tell()
			spoil(got[i])
			got[i] = want[i]
			if texts(got) != texts(want) {
				t.Errorf("behind a change of lock %d: %s, want %s", i, texts(got), texts(want))
			}
		}
	}
}

// P2: what was handed out stays as it was, whatever is done to the table later.
func TestHandedOutStaysAsItWas(t *testing.T) {
	table, want := some(t)
	held, waiting, edges := table.Held(), table.Waiting(), table.Edges()
	calls(t, table, "4 X x-y whole -> false", "5 S - whole -> false", "free 2 -> 1", "1 X b-d -> true", "6 S a-b -> true", "free 1 -> 2", "free 3 -> 1", "free 4 -> 0", "free 5 -> 0")
	stands(t, table, "6 S a-b", "", "")
	if texts(held) != want[0] || texts(waiting) != want[1] || edgeTexts(edges) != want[2] {
		t.Errorf("answers were changed: %v, %v, %v", held, waiting, edges)
	}
}
