package shard

import (
	"math"
	"testing"

	"plenum/api"
)

// P16.1, P16.3: what a transaction prepared, in one command or in several,
// becomes versions with that Ts, all of it; what others prepared stays.
func TestApply(t *testing.T) {
	for _, ts := range []uint64{0, 1, 5, 1 << 63, math.MaxUint64} {
		m := with(prepare(1, write("a", "1"), kill("c")), prepare(2, write("b", "2")), prepare(1, write("d", "x")))
		does(t, m, apply(1, ts), done)
		has(t, m, cell("a", no, val(ts, 1, "1", "a", "c")), cell("b", val(0, 2, "2", "b")), cell("c", no, dead(ts, 1, "a", "c")), cell("d", no, val(ts, 1, "x", "d")))
	}
}

// P16.1, P16.3: what a transaction prepared is gone, all of it; versions and what
// others prepared stay.
func TestDrop(t *testing.T) {
	m := with(prepare(1, write("a", "old")), apply(1, 3), prepare(1, write("a", "1"), kill("c")), prepare(2, write("b", "2")), prepare(1, write("d", "x")))
	does(t, m, drop(1), done)
	has(t, m, cell("a", no, val(3, 1, "old", "a")), cell("b", val(0, 2, "2", "b")))
}

// P16.1: of a transaction without intents, or of one whose intents were applied
// or dropped: nothing is done.
func TestApplyAndDropOfNothing(t *testing.T) {
	for _, first := range []api.Command{apply(1, 5), drop(1), {}} {
		for _, txn := range []uint64{0, 1, 9, 1<<32 + 2, math.MaxUint64} {
			m := with(prepare(2, write("b", "2")))
			m.Store().Put([]byte("z"), val(4, 0, "nobody's"))
			if first.Kind != 0 {
				m.Do(prepare(1, write("a", "1")))
				m.Do(first)
			}
			want := all(m)
			does(t, m, apply(txn, 7), done)
			does(t, m, drop(txn), done)
			does(t, m, apply(txn, 8), done)
			if got := all(m); got != want {
				t.Errorf("txn %d behind %+v: %s, want %s", txn, first, got, want)
			}
		}
	}
}

// P16.1: a version with the same Ts is replaced; the others stay.
func TestApplyAtTheSameTs(t *testing.T) {
	m := with(prepare(1, write("a", "1"), write("b", "1")), apply(1, 5), prepare(2, write("a", "2")), apply(2, 5), prepare(3, write("a", "3")), apply(3, 4))
	has(t, m, cell("a", no, val(5, 2, "2", "a"), val(4, 3, "3", "a")), cell("b", no, val(5, 1, "1", "a", "b")))
}

// P16.1: behind an apply, and behind a drop, other transactions write there.
func TestKeysAreFreeAgain(t *testing.T) {
	for _, c := range []api.Command{apply(1, 5), drop(1)} {
		m := with(prepare(1, write("a", "1"), write("b", "1")))
		does(t, m, prepare(2, write("b", "2")), refused(api.ErrBusy))
		does(t, m, c, done)
		does(t, m, prepare(2, write("b", "2")), done)
		does(t, m, prepare(1, write("b", "1")), refused(api.ErrBusy))
		does(t, m, prepare(1, write("a", "1")), done)
	}
}

// P16.1: gc takes away what is older than what is read at Ts, and a Dead version
// that is read there; intents stay.
func TestGc(t *testing.T) {
	a3, a5, a7 := val(3, 1, "3", "a", "b"), val(5, 2, "5", "a"), val(7, 3, "7", "a")
	b3, b6 := val(3, 1, "3", "a", "b"), dead(6, 4, "b")
	intent := val(0, 5, "i", "b")
	for _, x := range []struct {
		ts   uint64
		want []api.Cell
	}{
		{0, []api.Cell{cell("a", no, a7, a5, a3), cell("b", intent, b6, b3)}},
		{2, []api.Cell{cell("a", no, a7, a5, a3), cell("b", intent, b6, b3)}},
		{3, []api.Cell{cell("a", no, a7, a5, a3), cell("b", intent, b6, b3)}},
		{4, []api.Cell{cell("a", no, a7, a5, a3), cell("b", intent, b6, b3)}},
		{5, []api.Cell{cell("a", no, a7, a5), cell("b", intent, b6, b3)}},
		{6, []api.Cell{cell("a", no, a7, a5), cell("b", intent)}},
		{7, []api.Cell{cell("a", no, a7), cell("b", intent)}},
		{math.MaxUint64, []api.Cell{cell("a", no, a7), cell("b", intent)}},
	} {
		m := with(prepare(1, write("a", "3"), write("b", "3")), apply(1, 3), prepare(2, write("a", "5")), apply(2, 5), prepare(3, write("a", "7")), apply(3, 7),
			prepare(4, kill("b")), apply(4, 6), prepare(5, write("b", "i")))
		for range 2 {
			does(t, m, gc(x.ts), done)
			has(t, m, x.want...)
		}
	}
}
