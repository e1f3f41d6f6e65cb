package meta

import (
	"fmt"
	"maps"
	"math"
	"math/rand"
	"slices"
	"testing"

	"plenum/api"
	"plenum/lock"
)

// deed is a command that was done, and what it came to.
type deed struct {
	c api.Command
	r api.Result
}

// byWords is a machine as the chapter's words say it: all that it knows it finds
// by looking through what was done, from the first command on. Locks are a table
// of its own.
type byWords struct {
	deeds []deed
	locks *lock.Table
}

// count answers how many commands of that Kind were done without an error.
func (w *byWords) count(kind int) uint64 {
	var n uint64
	for _, d := range w.deeds {
		if d.c.Kind == kind && d.r.Err == api.OK {
			n++
		}
	}
	return n
}

// decided answers the transactions in the order in which they were decided, each
// once, and which of them were committed.
func (w *byWords) decided() (txns []uint64, committed []uint64) {
	for _, d := range w.deeds {
		if d.c.Kind != api.CmdDecide || d.r.Err != api.OK || slices.Contains(txns, d.c.Txn) {
			continue
		}
		txns = append(txns, d.c.Txn)
		if d.c.Flag {
			committed = append(committed, d.c.Txn)
		}
	}
	return txns, committed
}

// status tells what became of a transaction.
func (w *byWords) status(txn uint64) api.Status {
	txns, committed := w.decided()
	s := api.Status{Txn: txn}
	switch at := slices.Index(committed, txn); {
	case at >= 0:
		s.State, s.Ts = 1, uint64(at)+1
	case slices.Contains(txns, txn):
		s.State = 2
	}
	return s
}

func (w *byWords) clock() uint64 {
	_, committed := w.decided()
	return uint64(len(committed))
}

// tables answers all tables.
func (w *byWords) tables() []api.Table {
	var l []api.Table
	for _, d := range w.deeds {
		if d.c.Kind == api.CmdTable && d.r.Err == api.OK {
			l = append(l, d.r.Tables...)
		}
	}
	return l
}

// takes answers whether a table may be.
func (w *byWords) takes(t api.Table) bool {
	names, places, indexes := map[string]int{}, map[int]int{}, map[int]int{}
	kinds := 0
	for i, c := range t.Cols {
		names[c.Name]++
		places[i]++
		if c.Kind == 1 || c.Kind == 2 {
			kinds++
		}
	}
	n := len(t.Cols)
	if n == 0 || n > 12 || len(names) < n || names[""] > 0 || kinds < n || places[t.Key] == 0 {
		return false
	}
	for _, i := range t.Indexes {
		if indexes[i]++; places[i] == 0 {
			return false
		}
	}
	there := slices.ContainsFunc(w.tables(), func(x api.Table) bool { return x.Name == t.Name })
	return len(t.Name) > 0 && len(indexes) == len(t.Indexes) && len(indexes) <= 4 && !there && w.count(api.CmdTable) < 40
}

// do does a command.
func (w *byWords) do(c api.Command) api.Result {
	for _, d := range slices.Backward(w.deeds) {
		if c.Client == 0 || d.c.Client != c.Client {
			continue
		}
		if d.c.Seq == c.Seq {
			return d.r
		}
		if d.c.Seq > c.Seq {
			return refused(api.ErrRange)
		}
		break
	}
	r := w.byKind(c)
	w.deeds = append(w.deeds, deed{c, r})
	return r
}

func (w *byWords) byKind(c api.Command) api.Result {
	isThere := c.Txn >= 1 && c.Txn <= w.count(api.CmdBegin)
	txns, _ := w.decided()
	switch {
	case c.Kind == 1:
		return began(w.count(api.CmdBegin)+1, w.clock())
	case c.Kind == 2 && isThere && slices.Contains(txns, c.Txn):
		return became(w.status(c.Txn))
	case c.Kind == 2 && isThere && c.Flag:
		return became(api.Status{Txn: c.Txn, State: 1, Ts: w.clock() + 1})
	case c.Kind == 2 && isThere:
		return became(api.Status{Txn: c.Txn, State: 2})
	case c.Kind == 3:
		var l []api.Status
		for _, txn := range c.Txns {
			l = append(l, w.status(txn))
		}
		return became(l...)
	case c.Kind == 4 && isThere && !slices.Contains(txns, c.Txn):
		c.Lock.Txn = c.Txn
		is, e := w.locks.Ask(c.Lock)
		return api.Result{Flag: is, Err: e}
	case c.Kind == 2, c.Kind == 4:
		return refused(api.ErrTxn)
	case c.Kind == 5:
		w.locks.Free(c.Txn)
		return api.Result{}
	case c.Kind == 6 && w.takes(c.Table):
		t := c.Table
		t.Id = int64(w.count(api.CmdTable)) + 1
		t.Cols = slices.Clone(t.Cols)
		t.Cols[t.Key].NotNull = true
		return api.Result{Tables: []api.Table{t}}
	case c.Kind == 6:
		return refused(api.ErrTable)
	case c.Kind == 7:
		return api.Result{Tables: w.tables()}
	}
	return refused(api.ErrRange)
}

// drawn draws commands: of how many transactions at most, and what is frequent.
type drawn struct {
	*rand.Rand
	txns  int
	kinds []int
	seqs  map[uint64]uint64 // the greatest that each client told
}

// txn draws a transaction's number; now and then one that isn't there.
func (d drawn) txn() uint64 {
	if d.Intn(30) == 0 {
		return []uint64{0, 1 << 32, 1<<32 + 1, math.MaxUint64}[d.Intn(4)]
	}
	return 1 + uint64(d.Intn(d.txns))
}

// table draws a table; about every second one may be.
func (d drawn) table() api.Table {
	t := tableOf(d.Intn(60))
	if d.Intn(3) == 0 {
		t = api.Table{Id: 4, Name: fmt.Sprint("x", d.Intn(60)), Cols: cols(d.Intn(14)), Key: d.Intn(14), Indexes: []int{d.Intn(14), d.Intn(14)}[:d.Intn(3)]}
	}
	if d.Intn(3) == 0 {
		bad := badTables()
		names := slices.Sorted(maps.Keys(bad)) // a map's own order is no draw
		t = bad[names[d.Intn(len(names))]]
	}
	return t
}

// command draws one of a client's, mostly the next one.
func (d drawn) command() api.Command {
	c := api.Command{Client: uint64(d.Intn(4)), Kind: d.kinds[d.Intn(len(d.kinds))], Txn: d.txn(), Flag: d.Intn(3) > 0}
	if c.Client == 3 {
		c.Client = math.MaxUint64
	}
	switch d.Intn(9) {
	case 0:
		c.Seq = d.seqs[c.Client] - min(d.seqs[c.Client], uint64(1+d.Intn(3)))
	case 1, 2:
		c.Seq = d.seqs[c.Client]
	default:
		c.Seq = d.seqs[c.Client] + 1 + uint64(d.Intn(2))
		d.seqs[c.Client] = c.Seq
	}
	if d.Intn(40) == 0 {
		c.Kind = noKinds()[d.Intn(len(noKinds()))]
	}
	for range d.Intn(4) {
		c.Txns = append(c.Txns, d.txn())
	}
	lo := d.Intn(6)
	c.Lock = api.Lock{Txn: d.txn(), Level: d.Intn(2), Mode: 1 + d.Intn(4), Lo: []byte{byte('a' + lo)}, Hi: []byte{byte('b' + lo + d.Intn(2))}}
	if d.Intn(20) == 0 {
		c.Lock.Mode, c.Lock.Hi = d.Intn(6), nil
	}
	c.Table = d.table()
	return c
}

// both is a machine and the words, to which the same is done; and what both told
// so far of what became of transactions.
type both struct {
	m     *Machine
	w     *byWords
	known map[uint64]api.Status
}

// alike holds all that the machine tells to the words.
func (p both) alike() error {
	if got, want := p.m.Clock(), p.w.clock(); got != want {
		return fmt.Errorf("clock: %d, want %d", got, want)
	}
	got, want := p.m.Locks(), p.w.locks
	if !alike(got.Held(), want.Held()) || !alike(got.Waiting(), want.Waiting()) {
		return fmt.Errorf("held: %v, want %v; waiting: %v, want %v", got.Held(), want.Held(), got.Waiting(), want.Waiting())
	}
	if r := p.m.Do(catalog()); !alike(r, api.Result{Tables: p.w.tables()}) {
		return fmt.Errorf("catalog: %+v, want %+v", r, p.w.tables())
	}
	return nil
}

// once holds what became of all transactions to what was known of it, and asks
// that no two have one Ts (P15.3).
func (p both) once() error {
	var txns []uint64
	for txn := range p.w.count(api.CmdBegin) {
		txns = append(txns, txn+1)
	}
	whose := map[uint64]uint64{}
	for _, s := range p.m.Do(status(txns...)).States {
		if old := p.known[s.Txn]; old.State != api.Open && old != s {
			return fmt.Errorf("what was %v is %v", old, s)
		}
		p.known[s.Txn] = s
		if s.State != api.Committed {
			if s.Ts != 0 {
				return fmt.Errorf("a Ts of one that isn't committed: %v", s)
			}
			continue
		}
		if whose[s.Ts] != 0 || s.Ts < 1 || s.Ts > p.m.Clock() {
			return fmt.Errorf("%v, and %d", s, whose[s.Ts])
		}
		whose[s.Ts] = s.Txn
	}
	return nil
}

// step does one drawn command to both.
func (p both) step(d drawn) (api.Result, error) {
	c := d.command()
	got, want := p.m.Do(c), p.w.do(c)
	if !alike(got, want) {
		return got, fmt.Errorf("%+v: %+v, want %+v", c, got, want)
	}
	if err := p.alike(); err != nil {
		return got, fmt.Errorf("behind %+v: %v", c, err)
	}
	return got, p.once()
}

// P15.1 to P15.3: long drawn runs of all commands answer as the words do, and
// behind each what became of transactions is what it was.
func TestDrawnRunsAgainstTheWords(t *testing.T) {
	answers := map[api.Errno]int{}
	locks := append(slices.Repeat([]int{4}, 60), 1, 1, 1, 1, 2, 5)
	kinds := [][]int{{1, 2, 3, 4, 5, 6, 7}, {1, 1, 2, 2, 2, 3}, locks, {1, 2, 6, 6, 6, 6, 7}}
	for seed := range int64(32) {
		d := drawn{rand.New(rand.NewSource(seed)), []int{4, 10, 60}[seed%3], kinds[seed%4], map[uint64]uint64{}}
		p := both{New(), &byWords{locks: lock.New()}, map[uint64]api.Status{}}
		for at := range 300 {
			r, err := p.step(d)
			if err != nil {
				t.Fatalf("seed %d, command %d: %v", seed, at, err)
			}
			answers[r.Err]++
		}
	}
	for e, least := range map[api.Errno]int{api.OK: 1000, api.ErrRange: 200, api.ErrTxn: 200, api.ErrTable: 200, api.ErrDeadlock: 20} {
		if answers[e] < least {
			t.Errorf("%d was answered %d times only: %v", e, answers[e], answers)
		}
	}
}

// P15.2: the same runs, with each command taken from its bytes, answer the same.
func TestDrawnRunsByBytes(t *testing.T) {
	for seed := range int64(6) {
		d := drawn{rand.New(rand.NewSource(seed)), 9, []int{1, 2, 3, 4, 5, 6, 7}, map[uint64]uint64{}}
		a, b := New(), New()
		for at := range 400 {
			c := d.command()
			read, e := OfCommand(PutCommand(c))
			if e != api.OK {
				t.Fatalf("%+v: %d", c, e)
			}
			x, y := a.Do(c), b.Do(read)
			if !SameResult(x, y) || !alike(x, y) {
				t.Fatalf("seed %d, command %d: %+v and %+v", seed, at, x, y)
			}
		}
	}
}
