package meta

import (
	"fmt"
	"math"
	"reflect"
	"testing"

	"plenum/api"
	"plenum/lock"
)

func begin() api.Command {
	return api.Command{Kind: api.CmdBegin}
}

func commit(txn uint64) api.Command {
	return api.Command{Kind: api.CmdDecide, Txn: txn, Flag: true}
}

func abort(txn uint64) api.Command {
	return api.Command{Kind: api.CmdDecide, Txn: txn}
}

func status(txns ...uint64) api.Command {
	return api.Command{Kind: api.CmdStatus, Txns: txns}
}

func catalog() api.Command {
	return api.Command{Kind: api.CmdCatalog}
}

// from answers the command as that client's with that Seq.
func from(client, seq uint64, c api.Command) api.Command {
	c.Client, c.Seq = client, seq
	return c
}

// began, became and refused are what commands come to.
func began(txn, ts uint64) api.Result {
	return api.Result{Txn: txn, Ts: ts}
}

func became(l ...api.Status) api.Result {
	return api.Result{States: l}
}

func refused(e api.Errno) api.Result {
	return api.Result{Err: e}
}

// alike answers whether two things are alike in all their parts, where a list of
// nothing is no list.
func alike(a, b any) bool {
	return same(reflect.ValueOf(a), reflect.ValueOf(b))
}

func same(a, b reflect.Value) bool {
	switch a.Kind() {
	case reflect.Struct:
		for i := range a.NumField() {
			if !same(a.Field(i), b.Field(i)) {
				return false
			}
		}
		return true
	case reflect.Slice:
		if a.Len() != b.Len() {
			return false
		}
		for i := range a.Len() {
			if !same(a.Index(i), b.Index(i)) {
				return false
			}
		}
		return true
	}
	return a.Interface() == b.Interface()
}

// does does the command, and holds what it comes to to what it must.
func does(t *testing.T, m *Machine, c api.Command, want api.Result) {
	t.Helper()
	if got := m.Do(c); !alike(got, want) {
		t.Errorf("%+v: %+v, want %+v", c, got, want)
	}
}

// clock holds the machine's clock to what it must be.
func clock(t *testing.T, m *Machine, want uint64) {
	t.Helper()
	if got := m.Clock(); got != want {
		t.Errorf("clock: %d, want %d", got, want)
	}
}

// with answers a machine that did these commands.
func with(l ...api.Command) *Machine {
	m := New()
	for _, c := range l {
		m.Do(c)
	}
	return m
}

// all is what a machine tells of itself: the clock, what became of the first
// transactions, the locks and the tables.
func all(m *Machine) string {
	states := m.Do(status(0, 1, 2, 3, 4, 5, 6, 7, 8, 9, 10))
	l := m.Locks()
	return fmt.Sprintf("%d %+v %+v %+v %+v", m.Clock(), states, l.Held(), l.Waiting(), m.Do(catalog()))
}

// The example of the chapter.
func TestExample(t *testing.T) {
	m := New()
	does(t, m, begin(), began(1, 0))
	does(t, m, begin(), began(2, 0))
}

// P15.1, P15.2: a new machine has nothing.
func TestNew(t *testing.T) {
	m := New()
	clock(t, m, 0)
	does(t, m, status(1), became(api.Status{Txn: 1}))
	does(t, m, commit(1), refused(api.ErrTxn))
	does(t, m, catalog(), api.Result{})
	if l := m.Locks(); l == nil || len(l.Held()) != 0 || len(l.Waiting()) != 0 {
		t.Error("a new machine has locks, or no table of them")
	}
}

// P15.1: two machines know nothing of each other.
func TestTwoMachines(t *testing.T) {
	a, b := New(), New()
	does(t, a, from(1, 1, begin()), began(1, 0))
	does(t, a, commit(1), became(api.Status{Txn: 1, State: api.Committed, Ts: 1}))
	does(t, b, commit(1), refused(api.ErrTxn))
	does(t, b, from(1, 1, catalog()), api.Result{})
	clock(t, b, 0)
	if a.Locks() == b.Locks() {
		t.Error("two machines have one table of locks")
	}
}

// P15.1: each CmdBegin makes the next transaction, at the time that the clock
// tells then.
func TestBegin(t *testing.T) {
	m := New()
	does(t, m, begin(), began(1, 0))
	does(t, m, begin(), began(2, 0))
	does(t, m, commit(2), became(api.Status{Txn: 2, State: api.Committed, Ts: 1}))
	does(t, m, begin(), began(3, 1))
	does(t, m, abort(3), became(api.Status{Txn: 3, State: api.Aborted}))
	does(t, m, begin(), began(4, 1))
	does(t, m, commit(1), became(api.Status{Txn: 1, State: api.Committed, Ts: 2}))
	does(t, m, commit(4), became(api.Status{Txn: 4, State: api.Committed, Ts: 3}))
	does(t, m, begin(), began(5, 3))
	does(t, m, status(5), became(api.Status{Txn: 5}))
	clock(t, m, 3)
}

// P15.1: what else a CmdBegin tells doesn't matter.
func TestBeginWithEverything(t *testing.T) {
	m := New()
	c := full()
	c.Client, c.Kind = 0, api.CmdBegin
	does(t, m, c, began(1, 0))
	does(t, m, c, began(2, 0))
	if got, want := all(m), all(with(begin(), begin())); got != want {
		t.Errorf("%s, want %s", got, want)
	}
}

// P15.1: CmdDecide of one that is open, with Flag and without.
func TestDecide(t *testing.T) {
	m := with(begin(), begin(), begin(), begin())
	does(t, m, commit(3), became(api.Status{Txn: 3, State: api.Committed, Ts: 1}))
	clock(t, m, 1)
	does(t, m, abort(2), became(api.Status{Txn: 2, State: api.Aborted}))
	clock(t, m, 1)
	does(t, m, commit(1), became(api.Status{Txn: 1, State: api.Committed, Ts: 2}))
	clock(t, m, 2)
	does(t, m, status(1, 2, 3, 4), became(
		api.Status{Txn: 1, State: api.Committed, Ts: 2},
		api.Status{Txn: 2, State: api.Aborted},
		api.Status{Txn: 3, State: api.Committed, Ts: 1},
		api.Status{Txn: 4}))
}

// P15.1, P15.3: CmdDecide of one that is decided tells what it became, with Flag
// and without, and changes nothing.
func TestDecideOfOneThatIsDecided(t *testing.T) {
	m := with(begin(), begin(), begin(), commit(2), abort(1))
	want := all(m)
	for range 3 {
		for _, flag := range []bool{false, true} {
			does(t, m, api.Command{Kind: api.CmdDecide, Txn: 2, Flag: flag}, became(api.Status{Txn: 2, State: api.Committed, Ts: 1}))
			does(t, m, api.Command{Kind: api.CmdDecide, Txn: 1, Flag: flag}, became(api.Status{Txn: 1, State: api.Aborted}))
			if got := all(m); got != want {
				t.Fatalf("%s, want %s", got, want)
			}
		}
	}
	does(t, m, commit(3), became(api.Status{Txn: 3, State: api.Committed, Ts: 2}))
}

// P15.1: CmdDecide of one that isn't there, with Flag and without.
func TestDecideOfOneThatIsNotThere(t *testing.T) {
	m := with(begin(), begin(), commit(1))
	want := all(m)
	for _, txn := range []uint64{0, 3, 4, 1 << 32, 1<<32 + 1, 1 << 63, 1<<63 + 1, math.MaxUint64 - 1, math.MaxUint64} {
		does(t, m, commit(txn), refused(api.ErrTxn))
		does(t, m, abort(txn), refused(api.ErrTxn))
	}
	if got := all(m); got != want {
		t.Errorf("%s, want %s", got, want)
	}
	does(t, m, begin(), began(3, 1))
	does(t, m, commit(3), became(api.Status{Txn: 3, State: api.Committed, Ts: 2}))
}

// P15.1: what else a CmdDecide tells doesn't matter, the Ts neither.
func TestDecideWithEverything(t *testing.T) {
	m := with(begin(), begin())
	c := full()
	c.Client, c.Kind, c.Txn, c.Ts = 0, api.CmdDecide, 2, 77
	does(t, m, c, became(api.Status{Txn: 2, State: api.Committed, Ts: 1}))
	c.Txn, c.Flag = 1, false
	does(t, m, c, became(api.Status{Txn: 1, State: api.Aborted}))
	clock(t, m, 1)
}

// P15.1: a decision frees no locks.
func TestDecideFreesNothing(t *testing.T) {
	m := with(begin(), begin(), take(1, api.X, "a", "b"), take(2, api.X, "a", "b"), commit(1), abort(2))
	if held, waiting := m.Locks().Held(), m.Locks().Waiting(); len(held) != 1 || len(waiting) != 1 {
		t.Errorf("held: %v, waiting: %v", held, waiting)
	}
}

// P15.1: CmdStatus of none, of one, of several in any order, of one twice, of
// those that aren't there.
func TestStatus(t *testing.T) {
	m := with(begin(), begin(), begin(), commit(3), abort(1))
	one := api.Status{Txn: 1, State: api.Aborted}
	two := api.Status{Txn: 2}
	three := api.Status{Txn: 3, State: api.Committed, Ts: 1}
	none := func(txn uint64) api.Status { return api.Status{Txn: txn} }
	want := all(m)
	does(t, m, status(), became())
	does(t, m, api.Command{Kind: api.CmdStatus, Txns: []uint64{}}, became())
	does(t, m, api.Command{Kind: api.CmdStatus, Txn: 3}, became())
	does(t, m, status(1), became(one))
	does(t, m, status(3, 1, 2), became(three, one, two))
	does(t, m, status(3, 3), became(three, three))
	does(t, m, status(1, 2, 1, 3, 1), became(one, two, one, three, one))
	for _, txn := range []uint64{0, 4, 5, 1<<32 + 1, 1 << 63, math.MaxUint64} {
		does(t, m, status(txn), became(none(txn)))
		does(t, m, status(txn, 3, txn), became(none(txn), three, none(txn)))
	}
	if got := all(m); got != want {
		t.Errorf("%s, want %s", got, want)
	}
	does(t, m, begin(), began(4, 1))
	does(t, m, commit(4), became(api.Status{Txn: 4, State: api.Committed, Ts: 2}))
	does(t, m, status(4), became(api.Status{Txn: 4, State: api.Committed, Ts: 2}))
}

// P15.1: CmdStatus of as many as it is asked for.
func TestStatusOfMany(t *testing.T) {
	m := New()
	var txns []uint64
	var want []api.Status
	for n := uint64(1); n <= 3000; n++ {
		m.Do(begin())
		txns = append([]uint64{n}, txns...)
		if n%3 == 0 {
			m.Do(commit(n))
			want = append([]api.Status{{Txn: n, State: api.Committed, Ts: n / 3}}, want...)
		} else {
			want = append([]api.Status{{Txn: n}}, want...)
		}
	}
	does(t, m, status(txns...), became(want...))
}

// noKinds are numbers that are no Kind of this machine's commands.
func noKinds() []int {
	return []int{math.MinInt, -8, -7, -2, -1, 0, api.CmdPrepare, api.CmdApply, api.CmdDrop, api.CmdScan, api.CmdFetch, api.CmdGc, 14, 15, 100,
		1 << 32, 1<<32 + 1, 1<<32 + 7, 257, 65537, math.MaxInt}
}

// P15.1: other Kinds, those that the machines of keys do among them, are
// ErrRange, whatever else is told.
func TestNoKind(t *testing.T) {
	m := with(begin(), begin(), commit(1), take(2, api.X, "a", "b"), create(1))
	want := all(m)
	for _, kind := range noKinds() {
		does(t, m, api.Command{Kind: kind}, refused(api.ErrRange))
		c := full()
		c.Client, c.Kind, c.Txn = 0, kind, 2
		does(t, m, c, refused(api.ErrRange))
	}
	if got := all(m); got != want {
		t.Errorf("%s, want %s", got, want)
	}
}

// P15.2: Locks is the table itself: what is done to it the machine sees, and the
// other way round.
func TestLocks(t *testing.T) {
	m := with(begin(), begin())
	l := m.Locks()
	if l == nil || l != m.Locks() {
		t.Fatal("Locks isn't the table itself")
	}
	if is, e := l.Ask(api.Lock{Txn: 9, Level: api.Part, Mode: api.X, Lo: []byte("a"), Hi: []byte("b")}); !is || e != api.OK {
		t.Fatal("Ask of the table:", is, e)
	}
	does(t, m, take(1, api.S, "a", "b"), api.Result{})
	if got := l.Edges(); len(got) != 1 || got[0] != (api.Edge{From: 1, To: 9}) {
		t.Error("edges:", got)
	}
	does(t, m, free(9), api.Result{})
	if len(l.Held()) != 0 {
		t.Error("held:", l.Held())
	}
	does(t, m, take(1, api.S, "a", "b"), api.Result{Flag: true})
}

// P15.2: a Machine that nobody made.
func TestNobodyMade(t *testing.T) {
	for what, m := range map[string]*Machine{"nil": nil, "zero": {}, "new": new(Machine)} {
		for kind := -1; kind < 16; kind++ {
			c := full()
			c.Kind, c.Txn, c.Table = kind, 1, tableOf(1)
			for _, client := range []uint64{0, 1, 1, 300} {
				c.Client = client
				does(t, m, c, refused(api.ErrRange))
			}
		}
		for range 2 {
			does(t, m, begin(), refused(api.ErrRange))
			does(t, m, catalog(), refused(api.ErrRange))
			does(t, m, from(1, 1, begin()), refused(api.ErrRange))
		}
		if m.Clock() != 0 {
			t.Errorf("%s: clock: %d", what, m.Clock())
		}
		if l := m.Locks(); l != (*lock.Table)(nil) {
			t.Errorf("%s: locks: %v", what, l)
		}
	}
}
