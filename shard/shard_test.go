package shard

import (
	"fmt"
	"math"
	"testing"

	"plenum/api"
	"plenum/meta"
)

// write answers that the key becomes val.
func write(key, val string) api.Write {
	return api.Write{Key: []byte(key), Val: []byte(val)}
}

// kill answers that the key is dead.
func kill(key string) api.Write {
	return api.Write{Key: []byte(key), Dead: true}
}

// prepare answers the command that prepares the writes, whose keys are its Keys.
func prepare(txn uint64, l ...api.Write) api.Command {
	c := api.Command{Kind: api.CmdPrepare, Txn: txn, Writes: l}
	for _, w := range l {
		c.Keys = append(c.Keys, w.Key)
	}
	return c
}

// fresh answers the command with Flag and that Ts.
func fresh(ts uint64, c api.Command) api.Command {
	c.Flag, c.Ts = true, ts
	return c
}

func apply(txn, ts uint64) api.Command {
	return api.Command{Kind: api.CmdApply, Txn: txn, Ts: ts}
}

func drop(txn uint64) api.Command {
	return api.Command{Kind: api.CmdDrop, Txn: txn}
}

func scan(lo, hi string, ts uint64) api.Command {
	return api.Command{Kind: api.CmdScan, Lo: []byte(lo), Hi: []byte(hi), Ts: ts}
}

func fetch(key string, txn, ts uint64) api.Command {
	return api.Command{Kind: api.CmdFetch, Lo: []byte(key), Txn: txn, Ts: ts}
}

func gc(ts uint64) api.Command {
	return api.Command{Kind: api.CmdGc, Ts: ts}
}

// everything asks for all keys with all that there is of them.
func everything() api.Command {
	return scan("", "", math.MaxUint64)
}

// from answers the command as that client's with that Seq.
func from(client, seq uint64, c api.Command) api.Command {
	c.Client, c.Seq = client, seq
	return c
}

// texts answers the texts as a list of bytes.
func texts(l ...string) [][]byte {
	var b [][]byte
	for _, s := range l {
		b = append(b, []byte(s))
	}
	return b
}

// val answers a version; its transaction wrote these keys.
func val(ts, txn uint64, val string, keys ...string) api.Version {
	return api.Version{Ts: ts, Txn: txn, Val: []byte(val), Keys: texts(keys...)}
}

// dead answers the same of one that is Dead.
func dead(ts, txn uint64, keys ...string) api.Version {
	return api.Version{Ts: ts, Txn: txn, Dead: true, Keys: texts(keys...)}
}

// no is the intent of a key without one.
var no api.Version

// cell answers a key with that intent and these versions, the greatest Ts ahead.
func cell(key string, intent api.Version, versions ...api.Version) api.Cell {
	return api.Cell{Key: []byte(key), Intent: intent, Versions: versions}
}

// told and refused are what commands come to, and done is, where nothing is told.
func told(l ...api.Cell) api.Result {
	return api.Result{Cells: l}
}

func refused(e api.Errno) api.Result {
	return api.Result{Err: e}
}

var done api.Result

// does does the command, and holds what it comes to to what it must.
func does(t *testing.T, m *Machine, c api.Command, want api.Result) {
	t.Helper()
	if got := m.Do(c); !meta.SameResult(got, want) {
		t.Errorf("%+v: %+v, want %+v", c, got, want)
	}
}

// has holds all that the machine has to just these cells.
func has(t *testing.T, m *Machine, l ...api.Cell) {
	t.Helper()
	does(t, m, everything(), told(l...))
}

// all tells all that the machine has.
func all(m *Machine) string {
	return fmt.Sprintf("%+v", m.Store().Scan(nil, nil, math.MaxUint64))
}

// with answers a machine that did these commands.
func with(l ...api.Command) *Machine {
	m := New()
	for _, c := range l {
		m.Do(c)
	}
	return m
}

// noKinds are numbers of Kinds that no shard does: those of meta among them.
func noKinds() []int {
	return []int{math.MinInt, -13, -8, -1, 0, api.CmdBegin, api.CmdDecide, api.CmdStatus, api.CmdLock, api.CmdFree, api.CmdTable, api.CmdCatalog,
		api.CmdGc + 1, 99, 1<<32 + api.CmdPrepare, math.MaxInt}
}

// P16.1: a new machine has no keys.
func TestNew(t *testing.T) {
	m := New()
	has(t, m)
	does(t, m, fetch("", 0, 0), refused(api.ErrNone))
	does(t, m, apply(1, 1), done)
	does(t, m, drop(1), done)
	does(t, m, gc(math.MaxUint64), done)
	for key := range m.Store().Keys() {
		t.Errorf("the key %q", key)
	}
}

// P16.1: a Kind that none of the chapter's is: ErrRange, and nothing is done.
func TestNoKind(t *testing.T) {
	for _, kind := range noKinds() {
		m := with(prepare(1, write("a", "1")), apply(1, 3), prepare(2, write("b", "2")))
		want := all(m)
		c := prepare(2, write("c", "3"))
		c.Kind, c.Ts, c.Flag = kind, 9, true
		does(t, m, c, refused(api.ErrRange))
		does(t, m, api.Command{Kind: kind}, refused(api.ErrRange))
		if got := all(m); got != want {
			t.Errorf("Kind %d: %s, want %s", kind, got, want)
		}
	}
}

// P16.1: each Kind does what its name says, one behind the other.
func TestEachKind(t *testing.T) {
	m := New()
	does(t, m, prepare(1, write("a", "x"), kill("b")), done)
	has(t, m, cell("a", val(0, 1, "x", "a", "b")), cell("b", dead(0, 1, "a", "b")))
	does(t, m, fetch("a", 1, 7), told(cell("a", no, val(7, 1, "x", "a", "b"))))
	does(t, m, apply(1, 3), done)
	has(t, m, cell("a", no, val(3, 1, "x", "a", "b")), cell("b", no, dead(3, 1, "a", "b")))
	does(t, m, prepare(2, write("a", "y")), done)
	does(t, m, drop(2), done)
	does(t, m, scan("a", "b", 3), told(cell("a", no, val(3, 1, "x", "a", "b"))))
	does(t, m, gc(3), done)
	has(t, m, cell("a", no, val(3, 1, "x", "a", "b")))
}

// P16.1: what a command tells beside that which its Kind asks for doesn't matter.
func TestWhatAKindDoesNotAskFor(t *testing.T) {
	other := api.Command{Flag: true, Lock: api.Lock{Txn: 4, Mode: api.X, Lo: []byte("a")}, Txns: []uint64{1, 2}, Table: api.Table{Name: "t"},
		Lo: []byte("b"), Hi: []byte("a"), Writes: []api.Write{write("a", "9")}, Keys: texts("z"), Txn: 2, Ts: 4}
	ground := func() *Machine {
		return with(prepare(1, write("a", "1")), apply(1, 3), prepare(2, write("b", "2")))
	}
	for _, c := range []api.Command{prepare(3, write("a", "3")), apply(2, 9), drop(2), scan("a", "c", 5), fetch("a", 1, 5), fetch("b", 2, 5), gc(3)} {
		x := other
		x.Kind, x.Txn, x.Ts = c.Kind, c.Txn, c.Ts
		switch c.Kind {
		case api.CmdPrepare:
			x.Flag, x.Writes, x.Keys = c.Flag, c.Writes, c.Keys
		case api.CmdScan:
			x.Lo, x.Hi, x.Txn = c.Lo, c.Hi, 2
		case api.CmdFetch:
			x.Lo = c.Lo
		case api.CmdDrop:
			x.Ts = 3
		case api.CmdGc:
			x.Txn = 2
		}
		m, want := ground(), ground()
		does(t, m, x, want.Do(c))
		if all(m) != all(want) {
			t.Errorf("%+v: %s, want %s", x, all(m), all(want))
		}
	}
}

// P16.2: Store is what there is itself: what is put there is there, and what is
// done is seen there.
func TestStore(t *testing.T) {
	m := New()
	s := m.Store()
	s.Put([]byte("k"), val(4, 7, "x"))
	does(t, m, scan("", "", 4), told(cell("k", no, val(4, 7, "x"))))
	m.Do(prepare(1, write("a", "y")))
	if l := s.Intents(1); len(l) != 1 || string(l[0]) != "a" {
		t.Errorf("intents: %q", l)
	}
	m.Do(apply(1, 5))
	if v, is := s.At([]byte("a"), 5); !is || string(v.Val) != "y" {
		t.Errorf("%v, %v", v, is)
	}
	if m.Store() != s {
		t.Error("Store answers another store")
	}
	if New().Store() == New().Store() {
		t.Error("two machines have one store")
	}
}

// P16.2: a machine that nobody made does nothing: ErrRange, and no store.
func TestNobodyMade(t *testing.T) {
	var none *Machine
	for _, m := range []*Machine{none, {}, new(Machine)} {
		for range 2 {
			for _, c := range append(several(), api.Command{Kind: 99}) {
				does(t, m, c, refused(api.ErrRange))
				does(t, m, from(1, 1, c), refused(api.ErrRange))
				does(t, m, from(1, 0, c), refused(api.ErrRange))
			}
			if m.Store() != nil {
				t.Error("it has a store")
			}
		}
	}
}
