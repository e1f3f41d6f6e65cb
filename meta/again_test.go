package meta

import (
	"math"
	"testing"

	"plenum/api"
)

// several are commands of all Kinds, and of none, with all that they may tell.
func several() []api.Command {
	l := []api.Command{begin(), commit(1), abort(2), commit(99), status(1, 2, 99), status(), take(3, api.X, "a", "b"), take(3, api.X, "b", "a"),
		take(1, api.S, "a", "b"), free(4), free(3), catalog(), create(7), create(1), {Kind: api.CmdTable}, {}}
	for _, kind := range noKinds() {
		l = append(l, api.Command{Kind: kind, Txn: 1, Flag: true})
	}
	return l
}

// ground answers a machine at which each of several can be done: 1, 2, 3 and 4
// are open, 4 holds a lock, a table is there.
func ground() *Machine {
	return with(begin(), begin(), begin(), begin(), take(4, api.X, "x", "y"), create(1))
}

// P15.1: a command that is told again is answered as it was, and not done once
// more; also where the command that comes with it is another one.
func TestToldAgain(t *testing.T) {
	for _, c := range several() {
		m := ground()
		first := m.Do(from(5, 3, c))
		want := all(m)
		for _, other := range append(several(), c, c) {
			does(t, m, from(5, 3, other), first)
			if got := all(m); got != want {
				t.Fatalf("%+v told again as %+v: %s, want %s", c, other, got, want)
			}
		}
	}
}

// P15.1: what is told without a client ahead or meanwhile doesn't matter to what
// a client is answered again, even if it would be answered otherwise now.
func TestToldAgainLater(t *testing.T) {
	m := New()
	does(t, m, from(1, 1, commit(1)), refused(api.ErrTxn))
	does(t, m, from(2, 1, status(1)), became(api.Status{Txn: 1}))
	does(t, m, from(3, 1, catalog()), api.Result{})
	does(t, m, from(4, 1, begin()), began(1, 0))
	does(t, m, from(5, 1, api.Command{}), refused(api.ErrRange))
	does(t, m, begin(), began(2, 0))
	does(t, m, take(2, api.X, "a", "b"), granted)
	does(t, m, from(6, 1, take(1, api.X, "a", "b")), waits)
	does(t, m, from(7, 1, take(9, api.X, "a", "b")), refused(api.ErrTxn))
	does(t, m, free(2), api.Result{})
	does(t, m, create(1), told(1))
	does(t, m, commit(1), became(api.Status{Txn: 1, State: api.Committed, Ts: 1}))
	want := all(m)
	does(t, m, from(1, 1, commit(1)), refused(api.ErrTxn))
	does(t, m, from(2, 1, status(1)), became(api.Status{Txn: 1}))
	does(t, m, from(3, 1, catalog()), api.Result{})
	does(t, m, from(4, 1, begin()), began(1, 0))
	does(t, m, from(5, 1, begin()), refused(api.ErrRange))
	does(t, m, from(6, 1, take(1, api.X, "a", "b")), waits)
	does(t, m, from(7, 1, take(2, api.X, "a", "b")), refused(api.ErrTxn))
	if got := all(m); got != want {
		t.Errorf("%s, want %s", got, want)
	}
	does(t, m, from(1, 2, commit(1)), became(api.Status{Txn: 1, State: api.Committed, Ts: 1}))
	does(t, m, from(2, 2, status(1)), became(api.Status{Txn: 1, State: api.Committed, Ts: 1}))
	does(t, m, from(3, 2, catalog()), told(1))
	does(t, m, from(4, 2, begin()), began(3, 1))
	does(t, m, from(5, 2, begin()), began(4, 1))
	does(t, m, from(6, 2, take(1, api.X, "a", "b")), refused(api.ErrTxn))
	does(t, m, from(7, 2, take(2, api.X, "a", "b")), waits)
	does(t, m, from(7, 3, take(2, api.X, "c", "d")), granted)
}

// P15.1: a Seq that is smaller than the last one's: ErrRange, nothing is done,
// and the last one stays the last one.
func TestToldWithASmallerSeq(t *testing.T) {
	for _, seqs := range [][2]uint64{{3, 2}, {3, 1}, {3, 0}, {1, 0}, {math.MaxUint64, 0}, {math.MaxUint64, math.MaxUint64 - 1}, {1 << 63, 1<<63 - 1}, {1 << 32, 5}} {
		for _, c := range several() {
			m := ground()
			first := m.Do(from(5, seqs[0], c))
			want := all(m)
			for _, other := range append(several(), c) {
				does(t, m, from(5, seqs[1], other), refused(api.ErrRange))
			}
			does(t, m, from(5, seqs[0], begin()), first)
			if got := all(m); got != want {
				t.Fatalf("%+v, then a smaller Seq: %s, want %s", c, got, want)
			}
		}
	}
}

// P15.1: a Seq that was answered ahead of the last one is smaller than it: its
// answer isn't kept.
func TestToldAgainButNotTheLast(t *testing.T) {
	m := New()
	does(t, m, from(5, 1, begin()), began(1, 0))
	does(t, m, from(5, 2, begin()), began(2, 0))
	does(t, m, from(5, 1, begin()), refused(api.ErrRange))
	does(t, m, from(5, 2, begin()), began(2, 0))
	does(t, m, from(5, 3, begin()), began(3, 0))
}

// P15.1: a Seq that is greater than the last one's, by one or by more: it is
// done, the same command, too.
func TestToldWithAGreaterSeq(t *testing.T) {
	m := New()
	for i, seq := range []uint64{0, 1, 2, 3, 10, 11, 1 << 32, 1<<32 + 1, 1<<63 - 1, 1 << 63, math.MaxUint64 - 1, math.MaxUint64} {
		for range 3 {
			does(t, m, from(5, seq, begin()), began(uint64(i)+1, 0))
		}
	}
	does(t, m, from(5, 0, begin()), refused(api.ErrRange))
	does(t, m, from(5, math.MaxUint64, begin()), began(12, 0))
	does(t, m, begin(), began(13, 0))
}

// P15.1: an error is an answer, too: of a Kind that is none, and of each that
// has errors. What comes with a greater Seq is done.
func TestToldAgainBehindAnError(t *testing.T) {
	for _, c := range []struct {
		c api.Command
		e api.Errno
	}{
		{api.Command{}, api.ErrRange},
		{api.Command{Kind: api.CmdScan}, api.ErrRange},
		{api.Command{Kind: -1}, api.ErrRange},
		{commit(9), api.ErrTxn},
		{take(9, api.X, "a", "b"), api.ErrTxn},
		{take(1, api.X, "b", "a"), api.ErrRange},
		{api.Command{Kind: api.CmdTable}, api.ErrTable},
	} {
		m := ground()
		does(t, m, from(5, 3, c.c), refused(c.e))
		does(t, m, from(5, 3, begin()), refused(c.e))
		does(t, m, from(5, 2, begin()), refused(api.ErrRange))
		does(t, m, from(5, 3, c.c), refused(c.e))
		does(t, m, from(5, 4, begin()), began(5, 0))
		does(t, m, from(5, 4, c.c), began(5, 0))
		does(t, m, from(5, 3, c.c), refused(api.ErrRange))
	}
}

// P15.1: a client's first command may have any Seq, 0 too.
func TestTheFirstSeq(t *testing.T) {
	for _, seq := range []uint64{0, 1, 2, 77, 1 << 63, math.MaxUint64} {
		m := New()
		does(t, m, from(5, seq, begin()), began(1, 0))
		does(t, m, from(5, seq, catalog()), began(1, 0))
		does(t, m, begin(), began(2, 0))
	}
}

// P15.1: two clients side by side: each has a last command of its own.
func TestTwoClients(t *testing.T) {
	m := New()
	does(t, m, from(1, 5, begin()), began(1, 0))
	does(t, m, from(2, 5, begin()), began(2, 0))
	does(t, m, from(2, 1, begin()), refused(api.ErrRange))
	does(t, m, from(3, 1, begin()), began(3, 0))
	does(t, m, from(math.MaxUint64, 0, begin()), began(4, 0))
	does(t, m, from(1<<32+1, 4, begin()), began(5, 0))
	does(t, m, from(1, 5, catalog()), began(1, 0))
	does(t, m, from(2, 5, catalog()), began(2, 0))
	does(t, m, from(3, 1, catalog()), began(3, 0))
	does(t, m, from(math.MaxUint64, 0, catalog()), began(4, 0))
	does(t, m, from(1<<32+1, 4, catalog()), began(5, 0))
	does(t, m, from(1, 6, catalog()), api.Result{})
	does(t, m, from(2, 5, catalog()), began(2, 0))
	does(t, m, from(1, 5, catalog()), refused(api.ErrRange))
	does(t, m, from(3, 6, begin()), began(6, 0))
	does(t, m, from(2, 6, begin()), began(7, 0))
	does(t, m, from(1, 6, begin()), api.Result{})
}

// P15.1: nothing is kept of what client 0 is answered: each is done, whatever
// its Seq.
func TestClientNought(t *testing.T) {
	m := New()
	for i, seq := range []uint64{0, 0, 5, 5, 4, 0, math.MaxUint64, math.MaxUint64, 1} {
		does(t, m, from(0, seq, begin()), began(uint64(i)+1, 0))
	}
	does(t, m, from(0, 1, api.Command{}), refused(api.ErrRange))
	does(t, m, from(0, 1, commit(3)), became(api.Status{Txn: 3, State: api.Committed, Ts: 1}))
	does(t, m, from(0, 1, status(3)), became(api.Status{Txn: 3, State: api.Committed, Ts: 1}))
	does(t, m, from(0, 1, create(1)), told(1))
	does(t, m, from(0, 1, create(1)), refused(api.ErrTable))
}
