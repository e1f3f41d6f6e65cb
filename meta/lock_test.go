package meta

import (
	"fmt"
	"math"
	"testing"

	"plenum/api"
	"plenum/lock"
)

// take answers the command by which a transaction asks for a lock of a part.
func take(txn uint64, mode int, lo, hi string) api.Command {
	return api.Command{Kind: api.CmdLock, Txn: txn, Lock: api.Lock{Level: api.Part, Mode: mode, Lo: []byte(lo), Hi: []byte(hi)}}
}

func free(txn uint64) api.Command {
	return api.Command{Kind: api.CmdFree, Txn: txn}
}

// granted and waits are what a CmdLock comes to without an error.
var (
	granted = api.Result{Flag: true}
	waits   = api.Result{}
)

// lockTexts tells locks in short.
func lockTexts(l []api.Lock) string {
	s := ""
	for _, x := range l {
		s += fmt.Sprintf("%d %d %d %s-%s; ", x.Txn, x.Level, x.Mode, x.Lo, x.Hi)
	}
	return s
}

// stands holds the locks that are held and waited for to what they must be.
func stands(t *testing.T, m *Machine, held, waiting string) {
	t.Helper()
	if got := lockTexts(m.Locks().Held()); got != held {
		t.Errorf("held: %s, want %s", got, held)
	}
	if got := lockTexts(m.Locks().Waiting()); got != waiting {
		t.Errorf("waiting: %s, want %s", got, waiting)
	}
}

// P15.1: CmdLock of a transaction that is open: granted, waiting, and granted
// once the one that held is free.
func TestLock(t *testing.T) {
	m := with(begin(), begin(), begin())
	does(t, m, take(1, api.S, "a", "c"), granted)
	does(t, m, take(2, api.S, "b", "d"), granted)
	does(t, m, take(1, api.S, "a", "b"), granted)
	does(t, m, take(3, api.X, "a", "b"), waits)
	does(t, m, take(3, api.X, "a", "b"), waits)
	stands(t, m, "1 1 3 a-c; 2 1 3 b-d; ", "3 1 4 a-b; ")
	does(t, m, free(1), api.Result{})
	does(t, m, take(3, api.X, "a", "b"), granted)
	stands(t, m, "2 1 3 b-d; 3 1 4 a-b; ", "")
}

// P15.1: the lock is asked for by the command's transaction, whichever the lock
// names; its Level, Mode and bounds are as told.
func TestLockOfTheCommandsTransaction(t *testing.T) {
	for _, named := range []uint64{0, 1, 2, 9, math.MaxUint64} {
		m := with(begin(), begin(), abort(1))
		c := take(2, api.IX, "a", "")
		c.Lock.Txn, c.Lock.Level = named, api.Whole
		does(t, m, c, granted)
		stands(t, m, "2 0 2 a-; ", "")
		c.Txn = 1
		c.Lock.Txn = 2
		does(t, m, c, refused(api.ErrTxn))
		does(t, m, c, refused(api.ErrTxn))
		stands(t, m, "2 0 2 a-; ", "")
	}
}

// P15.1: CmdLock of a transaction that isn't open, or not there: ErrTxn, also
// where the lock may not be, where it would be granted and where it would wait.
func TestLockOfOneThatIsNotOpen(t *testing.T) {
	m := with(begin(), begin(), begin(), take(3, api.X, "a", "b"), take(1, api.X, "c", "d"), commit(1), abort(2))
	held := "3 1 4 a-b; 1 1 4 c-d; "
	for _, txn := range []uint64{1, 2, 0, 4, 1<<32 + 3, math.MaxUint64} {
		for _, c := range []api.Command{
			take(txn, api.X, "x", "y"),
			take(txn, api.S, "a", "b"),
			take(txn, api.X, "c", "d"),
			take(txn, api.S, "b", "a"),
			take(txn, 9, "a", "b"),
		} {
			does(t, m, c, refused(api.ErrTxn))
		}
	}
	stands(t, m, held, "")
	does(t, m, take(3, api.S, "c", "d"), waits)
	stands(t, m, held, "3 1 3 c-d; ")
}

// P15.1: CmdLock of a lock that may not be.
func TestLockThatMayNotBe(t *testing.T) {
	m := with(begin(), begin(), take(2, api.X, "", ""))
	for _, l := range []api.Lock{
		{}, {Level: api.Part}, {Mode: api.X, Level: 2}, {Mode: api.X, Level: -1}, {Level: api.Part, Mode: 5}, {Level: api.Part, Mode: -1},
		{Txn: 1, Level: api.Part, Mode: api.S, Lo: []byte("b"), Hi: []byte("a")},
		{Level: api.Part, Mode: api.S, Lo: []byte("a"), Hi: []byte("a")},
	} {
		does(t, m, api.Command{Kind: api.CmdLock, Txn: 1, Lock: l}, refused(api.ErrRange))
		does(t, m, api.Command{Kind: api.CmdLock, Txn: 9, Lock: l}, refused(api.ErrTxn))
	}
	stands(t, m, "2 1 4 -; ", "")
}

// P15.1: CmdLock of one that would wait in a ring: its error, and no Flag.
func TestLockInARing(t *testing.T) {
	m := with(begin(), begin())
	does(t, m, take(1, api.X, "a", "b"), granted)
	does(t, m, take(2, api.X, "c", "d"), granted)
	does(t, m, take(1, api.S, "c", "d"), waits)
	does(t, m, take(2, api.S, "a", "b"), refused(api.ErrDeadlock))
	stands(t, m, "1 1 4 a-b; 2 1 4 c-d; ", "1 1 3 c-d; ")
	does(t, m, status(1, 2), became(api.Status{Txn: 1}, api.Status{Txn: 2}))
	does(t, m, free(2), api.Result{})
	does(t, m, take(1, api.S, "c", "d"), granted)
}

// P15.1: CmdLock where 400 are held.
func TestLockOfOneTooMany(t *testing.T) {
	m := with(begin(), begin())
	for i := range 400 {
		does(t, m, take(1, api.S, fmt.Sprintf("%03d", i), fmt.Sprintf("%03d", i+1)), granted)
	}
	does(t, m, take(2, api.S, "a", "b"), refused(api.ErrLocks))
	does(t, m, take(1, api.S, "a", "b"), refused(api.ErrLocks))
	does(t, m, take(1, api.S, "007", "008"), granted)
	does(t, m, take(2, api.X, "007", "008"), waits)
	does(t, m, free(1), api.Result{})
	does(t, m, take(2, api.X, "007", "008"), granted)
}

// P15.1: what else a CmdLock tells doesn't matter.
func TestLockWithEverything(t *testing.T) {
	m := with(begin(), begin())
	c := full()
	c.Client, c.Kind, c.Txn = 0, api.CmdLock, 2
	c.Lock = api.Lock{Txn: 1, Level: api.Part, Mode: api.S, Lo: []byte("x"), Hi: []byte("y")}
	does(t, m, c, granted)
	stands(t, m, "2 1 3 x-y; ", "")
}

// P15.1: CmdFree of one that holds, waits, does both, does neither, isn't there;
// of one that is decided just as of one that is open.
func TestFree(t *testing.T) {
	start := []api.Command{begin(), begin(), begin(), begin(),
		take(1, api.X, "a", "b"), take(1, api.S, "c", "d"), take(2, api.S, "a", "b"), take(3, api.S, "e", "f"), take(3, api.X, "c", "d")}
	for _, c := range []struct {
		txn           uint64
		held, waiting string
	}{
		{1, "3 1 3 e-f; ", "2 1 3 a-b; 3 1 4 c-d; "},
		{2, "1 1 4 a-b; 1 1 3 c-d; 3 1 3 e-f; ", "3 1 4 c-d; "},
		{3, "1 1 4 a-b; 1 1 3 c-d; ", "2 1 3 a-b; "},
		{4, "1 1 4 a-b; 1 1 3 c-d; 3 1 3 e-f; ", "2 1 3 a-b; 3 1 4 c-d; "},
		{0, "1 1 4 a-b; 1 1 3 c-d; 3 1 3 e-f; ", "2 1 3 a-b; 3 1 4 c-d; "},
		{9, "1 1 4 a-b; 1 1 3 c-d; 3 1 3 e-f; ", "2 1 3 a-b; 3 1 4 c-d; "},
	} {
		for _, ahead := range [][]api.Command{nil, {commit(c.txn)}, {abort(c.txn)}} {
			m := with(start...)
			for _, x := range ahead {
				m.Do(x)
			}
			for range 2 {
				does(t, m, free(c.txn), api.Result{})
				stands(t, m, c.held, c.waiting)
			}
			if len(ahead) == 0 {
				does(t, m, status(c.txn), became(api.Status{Txn: c.txn}))
			}
		}
	}
}

// P15.1: CmdFree goes by the command's Txn alone.
func TestFreeWithEverything(t *testing.T) {
	m := with(begin(), begin(), take(1, api.X, "a", "b"), take(2, api.X, "c", "d"))
	c := full()
	c.Client, c.Kind, c.Txn, c.Lock.Txn, c.Txns = 0, api.CmdFree, 2, 1, []uint64{1}
	does(t, m, c, api.Result{})
	stands(t, m, "1 1 4 a-b; ", "")
	if !lock.Covers(m.Locks().Held()[0], api.Lock{Txn: 1, Level: api.Part, Mode: api.S, Lo: []byte("a"), Hi: []byte("b")}) {
		t.Error("the other one's lock is gone")
	}
}
