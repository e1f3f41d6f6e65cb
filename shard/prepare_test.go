package shard

import (
	"math"
	"testing"

	"plenum/api"
)

// P16.1: without a transaction: ErrTxn, whatever else is told and there.
func TestPrepareWithoutTxn(t *testing.T) {
	for _, c := range []api.Command{prepare(0), prepare(0, write("n", "1")), prepare(0, write("i", "1")), fresh(1, prepare(0, write("a", "1"))), fresh(9, prepare(0, write("n", "1")))} {
		m := ground()
		want := all(m)
		does(t, m, c, refused(api.ErrTxn))
		if got := all(m); got != want {
			t.Errorf("%+v: %s, want %s", c, got, want)
		}
	}
}

// P16.1: no writes are no intents.
func TestPrepareOfNothing(t *testing.T) {
	for _, c := range []api.Command{prepare(1), prepare(2), fresh(0, prepare(9)), {Kind: api.CmdPrepare, Txn: 2, Keys: texts("a", "i")}} {
		m := ground()
		want := all(m)
		does(t, m, c, done)
		if got := all(m); got != want {
			t.Errorf("%+v: %s, want %s", c, got, want)
		}
	}
}

// P16.1: what is prepared is an intent as it was told, whatever keys and values
// there are, with no Ts; each has the command's Keys, and not its own.
func TestPrepared(t *testing.T) {
	m := New()
	c := prepare(math.MaxUint64, write("", ""), write("\xff\xff", "\x00"), kill("b"), api.Write{Key: []byte("a\x00"), Dead: true, Val: []byte("kept")}, write("a", "1"))
	c.Ts, c.Keys = 7, texts("x", "", "b", "x")
	does(t, m, c, done)
	of := func(w api.Write) api.Version {
		return api.Version{Txn: math.MaxUint64, Dead: w.Dead, Val: w.Val, Keys: c.Keys}
	}
	has(t, m, cell("", of(c.Writes[0])), cell("a", of(c.Writes[4])), cell("a\x00", of(c.Writes[3])), cell("b", of(c.Writes[2])), cell("\xff\xff", of(c.Writes[1])))
	m = New()
	c.Keys = nil
	does(t, m, fresh(7, c), done)
	has(t, m, cell("", of(c.Writes[0])), cell("a", of(c.Writes[4])), cell("a\x00", of(c.Writes[3])), cell("b", of(c.Writes[2])), cell("\xff\xff", of(c.Writes[1])))
}

// P16.1: of one key the last: whether it lives or is dead, with or without other
// keys between.
func TestPrepareOneKeyTwice(t *testing.T) {
	lives, dies := val(0, 1, "last", "k"), dead(0, 1, "k")
	dies.Val = []byte("d")
	for _, x := range []struct {
		l    []api.Write
		want api.Version
	}{
		{[]api.Write{write("k", "first"), write("k", "last")}, lives},
		{[]api.Write{kill("k"), write("k", "last")}, lives},
		{[]api.Write{write("k", "first"), {Key: []byte("k"), Dead: true, Val: []byte("d")}}, dies},
		{[]api.Write{kill("k"), write("k", "x"), kill("k"), write("k", "last")}, lives},
	} {
		c := prepare(1, x.l...)
		c.Keys = texts("k")
		m := New()
		does(t, m, c, done)
		has(t, m, cell("k", x.want))
		c.Writes = []api.Write{x.l[0], write("j", "other"), x.l[len(x.l)-1], write("l", "other")}
		m = New()
		does(t, m, fresh(0, c), done)
		has(t, m, cell("j", val(0, 1, "other", "k")), cell("k", x.want), cell("l", val(0, 1, "other", "k")))
	}
}

// P16.1: another transaction's intent at the first, a middle or the last key:
// ErrBusy, with Flag too, and none is an intent.
func TestBusy(t *testing.T) {
	for _, at := range []string{"a", "b", "c"} {
		for _, ts := range []uint64{0, 5, math.MaxUint64} {
			m := with(prepare(7, write(at, "7")))
			c := prepare(1, write("a", "1"), write("b", "1"), kill("c"))
			does(t, m, c, refused(api.ErrBusy))
			does(t, m, fresh(ts, c), refused(api.ErrBusy))
			has(t, m, cell(at, val(0, 7, "7", at)))
			does(t, m, prepare(1, write(at+"\x00", "1"), write("", "1")), done)
		}
	}
}

// P16.1: with Flag, the latest version's Ts above Ts: ErrStale; at or below it:
// OK. Without Flag the versions don't matter.
func TestStale(t *testing.T) {
	for _, at := range []string{"a", "b", "c"} {
		for _, x := range []struct {
			latest, ts uint64
			e          api.Errno
		}{{5, 0, api.ErrStale}, {5, 4, api.ErrStale}, {5, 5, api.OK}, {5, 6, api.OK}, {5, math.MaxUint64, api.OK}, {0, 0, api.OK}, {1, 0, api.ErrStale},
			{math.MaxUint64, math.MaxUint64, api.OK}, {math.MaxUint64, math.MaxUint64 - 1, api.ErrStale}, {1 << 63, 1<<63 - 1, api.ErrStale}, {1 << 32, 9, api.ErrStale}} {
			m := with(prepare(7, write(at, "old")), apply(7, x.latest/2), prepare(8, kill(at)), apply(8, x.latest))
			want := all(m)
			c := prepare(1, write("a", "1"), write("b", "1"), write("c", "1"))
			does(t, m, fresh(x.ts, c), refused(x.e))
			if got := all(m); x.e != api.OK && got != want {
				t.Errorf("%+v: %s, want %s", x, got, want)
			}
			c.Ts = x.ts
			does(t, m, c, done)
			for _, key := range []string{"a", "b", "c"} {
				does(t, m, fetch(key, 1, 3), told(cell(key, no, val(3, 1, "1", "a", "b", "c"))))
			}
		}
	}
}

// P16.1: the transaction's own version behind Ts is as stale as another one's.
func TestStaleByItself(t *testing.T) {
	m := with(prepare(1, write("a", "1")), apply(1, 5))
	does(t, m, fresh(4, prepare(1, write("a", "2"))), refused(api.ErrStale))
	does(t, m, fresh(5, prepare(1, write("a", "2"))), done)
}

// P16.1: a version at the key's neighbours makes nothing stale, nor does an
// intent there make it busy: neither those that begin with it.
func TestNeighbours(t *testing.T) {
	for _, key := range []string{"", "a", "a\x00", "a\xff", "\xff"} {
		m := New()
		for i, x := range []string{"", "a", "a\x00", "a\x00\x00", "a\x01", "a\xff", "`\xff\xff", "b", "\xff", "\xff\x00"} {
			if x != key {
				m.Do(prepare(uint64(i)+10, write(x, "v")))
				m.Do(apply(uint64(i)+10, 9))
				m.Do(prepare(uint64(i)+30, write(x, "i")))
			}
		}
		does(t, m, fresh(3, prepare(1, write(key, "mine"))), done)
		does(t, m, fetch(key, 1, 4), told(cell(key, no, val(4, 1, "mine", key))))
	}
}

// P16.1: the first key that may not be written tells the error; at one key it is
// ErrBusy.
func TestBusyAndStale(t *testing.T) {
	ground := func() *Machine {
		return with(prepare(7, write("stale", "1"), write("both", "1")), apply(7, 5), prepare(8, write("busy", "2"), write("both", "2")))
	}
	for _, x := range []struct {
		e    api.Errno
		keys []string
	}{
		{api.ErrBusy, []string{"a", "busy", "b", "stale", "c"}},
		{api.ErrStale, []string{"a", "stale", "b", "busy", "c"}},
		{api.ErrBusy, []string{"busy", "stale"}},
		{api.ErrStale, []string{"stale", "busy"}},
		{api.ErrBusy, []string{"both"}},
		{api.ErrBusy, []string{"a", "both", "stale"}},
		{api.ErrStale, []string{"z", "stale", "both", "both"}},
		{api.ErrBusy, []string{"a", "b", "c", "busy"}},
		{api.ErrStale, []string{"c", "b", "a", "stale"}},
	} {
		var l []api.Write
		for _, key := range x.keys {
			l = append(l, write(key, "1"))
		}
		m := ground()
		want := all(m)
		does(t, m, fresh(4, prepare(1, l...)), refused(x.e))
		if got := all(m); got != want {
			t.Errorf("%q: %s, want %s", x.keys, got, want)
		}
		if l := m.Store().Intents(1); len(l) > 0 {
			t.Errorf("%q: intents at %q behind an error", x.keys, l)
		}
	}
}

// P16.1: prepared again by the same transaction: what is told now stands in the
// place of its own intents, and others of its own stay.
func TestPrepareAgain(t *testing.T) {
	m := with(prepare(1, write("a", "1"), write("b", "1"), kill("c")))
	does(t, m, fresh(0, prepare(1, kill("b"), write("d", "2"))), done)
	a, c := val(0, 1, "1", "a", "b", "c"), dead(0, 1, "a", "b", "c")
	has(t, m, cell("a", a), cell("b", dead(0, 1, "b", "d")), cell("c", c), cell("d", val(0, 1, "2", "b", "d")))
	does(t, m, prepare(1), done)
	has(t, m, cell("a", a), cell("b", dead(0, 1, "b", "d")), cell("c", c), cell("d", val(0, 1, "2", "b", "d")))
}

// P16.1: where it is refused, what the transaction prepared ahead stays as it
// was, at the same keys too.
func TestPrepareAgainRefused(t *testing.T) {
	m := with(prepare(7, write("stale", "7")), apply(7, 5), prepare(8, write("busy", "8")), prepare(1, write("a", "1"), write("c", "1")))
	want := all(m)
	does(t, m, prepare(1, write("a", "2"), write("b", "2"), write("busy", "2"), kill("c")), refused(api.ErrBusy))
	does(t, m, fresh(4, prepare(1, kill("a"), write("stale", "2"), write("c", "2"))), refused(api.ErrStale))
	if got := all(m); got != want {
		t.Errorf("%s, want %s", got, want)
	}
	does(t, m, drop(8), done)
	does(t, m, prepare(1, write("busy", "2")), done)
}
