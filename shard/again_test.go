package shard

import (
	"math"
	"testing"

	"plenum/api"
)

// several are commands of all Kinds, and of none, with what they may come to.
func several() []api.Command {
	l := []api.Command{prepare(0, write("a", "1")), prepare(0), prepare(5), prepare(5, write("n", "5"), kill("a")), prepare(5, write("i", "5")),
		fresh(2, prepare(5, write("a", "5"))), fresh(3, prepare(5, write("a", "5"))), apply(2, 9), apply(7, 9), drop(2), drop(7),
		everything(), scan("a", "b", 3), scan("b", "a", 3), fetch("a", 1, 5), fetch("i", 2, 5), fetch("x", 1, 5), gc(3), gc(9), {}}
	for _, kind := range noKinds() {
		l = append(l, api.Command{Kind: kind, Txn: 2, Ts: 9, Lo: []byte("a")})
	}
	return l
}

// ground answers a machine at which each of several can be done: 1 wrote a, then
// killed it, 2 is about to write i.
func ground() *Machine {
	return with(prepare(1, write("a", "1")), apply(1, 2), prepare(1, kill("a")), apply(1, 3), prepare(2, write("i", "2")))
}

// P16.1: a command that is told again is answered as it was, and not done once
// more; also where its first answer was an error or had Cells, and where the
// command that comes with it is another one.
func TestToldAgain(t *testing.T) {
	for _, c := range several() {
		m := ground()
		first := m.Do(from(5, 3, c))
		want := all(m)
		for _, other := range append(several(), c, c) {
			does(t, m, from(5, 3, other), first)
			if got := all(m); got != want {
				t.Fatalf("%+v told again as %+v: %s, want %s", c, other, got, want)
			}
		}
	}
}

// P16.1: what is told by others meanwhile doesn't matter to what a client is
// answered again, even if it would be answered otherwise now.
func TestToldAgainLater(t *testing.T) {
	a := cell("a", no, dead(3, 1, "a"), val(2, 1, "1", "a"))
	asked := []struct {
		c           api.Command
		first, late api.Result
	}{
		{scan("a", "b", 9), told(a), told(cell("a", no, val(8, 4, "4", "a")))},
		{fetch("a", 1, 9), told(cell("a", no, dead(3, 1, "a"))), refused(api.ErrNone)},
		{fetch("a", 4, 9), refused(api.ErrNone), told(cell("a", no, val(8, 4, "4", "a")))},
		{fetch("i", 2, 6), told(cell("i", no, val(6, 2, "2", "i"))), refused(api.ErrNone)},
		{prepare(5, write("i", "5")), refused(api.ErrBusy), done},
		{fresh(3, prepare(6, write("a", "6"))), done, refused(api.ErrStale)},
	}
	m := ground()
	for i, x := range asked {
		does(t, m, from(uint64(i)+1, 1, x.c), x.first)
	}
	for _, c := range []api.Command{drop(6), drop(2), prepare(4, write("a", "4")), apply(4, 8), gc(8)} {
		does(t, m, c, done)
	}
	want := all(m)
	for i, x := range asked {
		does(t, m, from(uint64(i)+1, 1, x.c), x.first)
	}
	if got := all(m); got != want {
		t.Errorf("%s, want %s", got, want)
	}
	for i, x := range asked {
		does(t, m, from(uint64(i)+1, 2, x.c), x.late)
		does(t, m, from(uint64(i)+1, 2, everything()), x.late)
	}
}

// P16.1: a Seq that is smaller than the last one's: ErrRange, nothing is done,
// and the last one stays the last one.
func TestToldWithASmallerSeq(t *testing.T) {
	for _, seqs := range [][2]uint64{{3, 2}, {3, 0}, {1, 0}, {math.MaxUint64, 0}, {math.MaxUint64, math.MaxUint64 - 1}, {1 << 63, 1<<63 - 1}, {1 << 32, 5}} {
		for _, c := range several() {
			m := ground()
			first := m.Do(from(5, seqs[0], c))
			want := all(m)
			for _, other := range append(several(), c) {
				does(t, m, from(5, seqs[1], other), refused(api.ErrRange))
			}
			does(t, m, from(5, seqs[0], everything()), first)
			if got := all(m); got != want {
				t.Fatalf("%+v, then a smaller Seq: %s, want %s", c, got, want)
			}
		}
	}
}

// P16.1: a Seq that was answered ahead of the last one is smaller than it: its
// answer isn't kept.
func TestToldAgainButNotTheLast(t *testing.T) {
	m := ground()
	does(t, m, from(5, 1, fetch("i", 2, 6)), told(cell("i", no, val(6, 2, "2", "i"))))
	does(t, m, from(5, 2, drop(2)), done)
	does(t, m, from(5, 1, fetch("i", 2, 6)), refused(api.ErrRange))
	does(t, m, from(5, 2, fetch("i", 2, 6)), done)
	does(t, m, from(5, 3, fetch("i", 2, 6)), refused(api.ErrNone))
}

// P16.1: a Seq that is greater than the last one's, by one or by more: it is
// done, the same command, too; also behind an error.
func TestToldWithAGreaterSeq(t *testing.T) {
	m := New()
	seqs := []uint64{0, 1, 2, 10, 11, 1 << 32, 1<<32 + 1, 1<<63 - 1, 1 << 63, math.MaxUint64 - 1, math.MaxUint64}
	for i, seq := range seqs {
		m.Do(prepare(1, write("a", string(rune('a'+i)))))
		want := told(cell("a", no, val(7, 1, string(rune('a'+i)), "a")))
		for range 3 {
			does(t, m, from(5, seq, fetch("a", 1, 7)), want)
		}
	}
	does(t, m, from(5, 0, fetch("a", 1, 7)), refused(api.ErrRange))
	m = New()
	for _, seq := range seqs[:10] {
		does(t, m, from(5, seq, fetch("a", 1, 7)), refused(api.ErrNone))
	}
	m.Do(prepare(1, write("a", "x")))
	does(t, m, from(5, seqs[9], fetch("a", 1, 7)), refused(api.ErrNone))
	does(t, m, from(5, seqs[10], fetch("a", 1, 7)), told(cell("a", no, val(7, 1, "x", "a"))))
}

// P16.1: two clients side by side: each has a last command of its own.
func TestTwoClients(t *testing.T) {
	m := ground()
	what := told(cell("i", no, val(6, 2, "2", "i")))
	does(t, m, from(1, 5, fetch("i", 2, 6)), what)
	does(t, m, from(2, 5, drop(2)), done)
	does(t, m, from(1, 5, everything()), what)
	does(t, m, from(2, 5, everything()), done)
	does(t, m, from(2, 1, everything()), refused(api.ErrRange))
	does(t, m, from(1<<32+1, 4, fetch("i", 2, 6)), refused(api.ErrNone))
	does(t, m, from(math.MaxUint64, 0, fetch("a", 1, 6)), told(cell("a", no, dead(3, 1, "a"))))
	does(t, m, from(1, 4, everything()), refused(api.ErrRange))
	does(t, m, from(1, 6, fetch("i", 2, 6)), refused(api.ErrNone))
	does(t, m, from(2, 5, everything()), done)
	does(t, m, from(1<<32+1, 4, everything()), refused(api.ErrNone))
	does(t, m, from(math.MaxUint64, 0, everything()), told(cell("a", no, dead(3, 1, "a"))))
}

// P16.1: nothing is kept of what client 0 is answered: each is done, whatever
// its Seq.
func TestClientNought(t *testing.T) {
	m := New()
	for i, seq := range []uint64{0, 0, 5, 5, 4, 0, math.MaxUint64, math.MaxUint64, 1} {
		x := string(rune('a' + i))
		does(t, m, from(0, seq, prepare(1, write("k", x))), done)
		does(t, m, from(0, seq, fetch("k", 1, 4)), told(cell("k", no, val(4, 1, x, "k"))))
		does(t, m, from(0, seq, api.Command{}), refused(api.ErrRange))
	}
}

// P16.1: a client's first command may have any Seq, 0 too.
func TestTheFirstSeq(t *testing.T) {
	for _, seq := range []uint64{0, 1, 77, 1 << 63, math.MaxUint64} {
		m := ground()
		does(t, m, from(5, seq, fetch("i", 2, 6)), told(cell("i", no, val(6, 2, "2", "i"))))
		does(t, m, from(5, seq, drop(2)), told(cell("i", no, val(6, 2, "2", "i"))))
		does(t, m, fetch("i", 2, 7), told(cell("i", no, val(7, 2, "2", "i"))))
	}
}
