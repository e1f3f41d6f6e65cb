package shard

import (
	"math"
	"testing"

	"plenum/api"
)

// stored answers a machine with versions at a, b and d, and intents at b, c and
// the empty key.
func stored() *Machine {
	return with(prepare(1, write("a", "1"), write("b", "1")), apply(1, 3), prepare(2, kill("b"), write("d", "2")), apply(2, 5),
		prepare(3, write("b", "3"), kill("c")), prepare(4, write("", "4")))
}

// P16.1: the cells within Lo and Hi, as they are seen at Ts; with nothing as a
// bound from the beginning, or up to the end.
func TestScan(t *testing.T) {
	first := cell("", val(0, 4, "4", ""))
	a := cell("a", no, val(3, 1, "1", "a", "b"))
	b := cell("b", val(0, 3, "3", "b", "c"), dead(5, 2, "b", "d"), val(3, 1, "1", "a", "b"))
	b3, b2 := cell("b", b.Intent, b.Versions[1]), cell("b", b.Intent)
	c := cell("c", dead(0, 3, "b", "c"))
	d := cell("d", no, val(5, 2, "2", "b", "d"))
	m := stored()
	for _, x := range []struct {
		lo, hi string
		ts     uint64
		want   []api.Cell
	}{
		{"", "", math.MaxUint64, []api.Cell{first, a, b, c, d}},
		{"", "", 5, []api.Cell{first, a, b, c, d}},
		{"", "", 4, []api.Cell{first, a, b3, c}},
		{"", "", 3, []api.Cell{first, a, b3, c}},
		{"", "", 2, []api.Cell{first, b2, c}},
		{"", "", 0, []api.Cell{first, b2, c}},
		{"", "b", 9, []api.Cell{first, a}},
		{"", "a", 9, []api.Cell{first}},
		{"", "\x00", 9, []api.Cell{first}},
		{"\x00", "", 9, []api.Cell{a, b, c, d}},
		{"b", "", 9, []api.Cell{b, c, d}},
		{"b\x00", "", 9, []api.Cell{c, d}},
		{"a", "d", 9, []api.Cell{a, b, c}},
		{"a", "d\x00", 9, []api.Cell{a, b, c, d}},
		{"b", "b\x00", 4, []api.Cell{b3}},
		{"c", "d", 0, []api.Cell{c}},
		{"a", "b", 2, nil},
		{"b", "b", 9, nil},
		{"d", "b", 9, nil},
		{"e", "", 9, nil},
		{"bb", "bc", 9, nil},
	} {
		does(t, m, scan(x.lo, x.hi, x.ts), told(x.want...))
	}
}

// P16.1: the version of the transaction, whoever wrote behind it, is about to
// write there, or wrote ahead of it; whatever Ts the command tells.
func TestFetchOfAVersion(t *testing.T) {
	m := stored()
	for _, ts := range []uint64{0, 3, 4, 9, math.MaxUint64} {
		does(t, m, fetch("a", 1, ts), told(cell("a", no, val(3, 1, "1", "a", "b"))))
		does(t, m, fetch("b", 1, ts), told(cell("b", no, val(3, 1, "1", "a", "b"))))
		does(t, m, fetch("b", 2, ts), told(cell("b", no, dead(5, 2, "b", "d"))))
		does(t, m, fetch("d", 2, ts), told(cell("d", no, val(5, 2, "2", "b", "d"))))
	}
}

// P16.1: of several versions of the transaction the one with the greatest Ts,
// also ahead of its intent.
func TestFetchOfSeveralVersions(t *testing.T) {
	m := with(prepare(1, write("k", "7")), apply(1, 7), prepare(1, write("k", "3")), apply(1, 3), prepare(2, write("k", "9")), apply(2, 9),
		prepare(1, kill("k")), apply(1, 8), prepare(1, write("k", "5")), apply(1, 5))
	for range 2 {
		for _, ts := range []uint64{0, 4, 8, 12} {
			does(t, m, fetch("k", 1, ts), told(cell("k", no, dead(8, 1, "k"))))
			does(t, m, fetch("k", 2, ts), told(cell("k", no, val(9, 2, "9", "k"))))
		}
		m.Do(prepare(1, write("k", "intent")))
	}
	m.Do(gc(9))
	does(t, m, fetch("k", 1, 6), told(cell("k", no, val(6, 1, "intent", "k"))))
}

// P16.1: the transaction's intent, where it has no version there, with the
// command's Ts; the intent itself stays as it is.
func TestFetchOfAnIntent(t *testing.T) {
	for _, ts := range []uint64{0, 1, 5, math.MaxUint64} {
		m := stored()
		want := all(m)
		does(t, m, fetch("b", 3, ts), told(cell("b", no, val(ts, 3, "3", "b", "c"))))
		does(t, m, fetch("c", 3, ts), told(cell("c", no, dead(ts, 3, "b", "c"))))
		does(t, m, fetch("", 4, ts), told(cell("", no, val(ts, 4, "4", ""))))
		if got := all(m); got != want {
			t.Errorf("%s, want %s", got, want)
		}
	}
}

// P16.1: neither a version nor an intent of the transaction at that key, what is
// there of others or at other keys: ErrNone.
func TestFetchOfNone(t *testing.T) {
	m := stored()
	for _, ts := range []uint64{0, 3, 5, math.MaxUint64} {
		for key, txns := range map[string][]uint64{"": {0, 1, 2, 3, 9}, "a": {0, 2, 3, 4}, "b": {0, 4, 1<<32 + 1}, "c": {0, 1, 2, 4}, "d": {0, 1, 3, math.MaxUint64},
			"x": {0, 1, 2, 3}, "a\x00": {0, 1}, "b\x00": {3}, "\x00": {4}} {
			for _, txn := range txns {
				does(t, m, fetch(key, txn, ts), refused(api.ErrNone))
			}
		}
	}
}

// P16.1: of txn 0 there is no intent; a version that says it is of txn 0 is.
func TestFetchOfTxnNought(t *testing.T) {
	m := stored()
	m.Store().Put([]byte("z"), val(4, 0, "nobody's"))
	m.Store().Put([]byte("z"), val(5, 1, "1"))
	does(t, m, fetch("z", 0, 9), told(cell("z", no, val(4, 0, "nobody's"))))
	does(t, m, fetch("a", 0, 9), refused(api.ErrNone))
}
