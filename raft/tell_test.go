package raft

import (
	"bytes"
	"fmt"
	"math"
	"slices"
	"testing"

	"plenum/api"
	"plenum/rlog"
)

// recorded holds what is to be remembered, and that it is told once.
func recorded(t *testing.T, what string, n *Node, want ...[]byte) {
	t.Helper()
	if got := n.Records(); !slices.EqualFunc(got, want, bytes.Equal) {
		t.Errorf("%s: Records %x, want %x", what, got, want)
	}
	if again := n.Records(); len(again) != 0 {
		t.Errorf("%s: Records again: %x", what, again)
	}
}

// putEntries answers entries as records.
func putEntries(l []api.Entry) [][]byte {
	var out [][]byte
	for _, e := range l {
		out = append(out, rlog.PutEntry(e))
	}
	return out
}

func putHard(term, vote uint64) []byte {
	return rlog.PutHard(api.Hard{Term: term, Vote: vote})
}

// P9.8: a new node has nothing to remember but what its log hasn't told.
func TestRecordsOfANewNode(t *testing.T) {
	recorded(t, "new", node(1, api.Hard{Term: 3, Vote: 2}, []uint64{1}, 1, 2))
	l := logOf(api.Snap{Members: []uint64{1, 2}}, 1)
	l.Append(entry(2, 1))
	recorded(t, "a log that isn't clean", New(1, api.Hard{}, l), rlog.PutEntry(entry(2, 1)))
}

// P9.8: the hard state, if it is another one, behind each call that changes it.
func TestRecordsOfTheHardState(t *testing.T) {
	n := node(1, api.Hard{}, []uint64{1, 2, 3})
	for range 9 {
		n.Tick(0)
	}
	recorded(t, "ticks", n)
	n.Tick(0)
	recorded(t, "an election", n, putHard(1, 1))
	n.Step(api.Msg{Kind: api.TellVote, From: 2, To: 1, Term: 1, Reject: true})
	recorded(t, "a rejected vote", n)
	n.Step(api.Msg{Kind: api.AskVote, From: 2, To: 1, Term: 2})
	recorded(t, "a vote in a greater Term", n, putHard(2, 2))
	n.Step(api.Msg{Kind: api.AskVote, From: 2, To: 1, Term: 2})
	n.Step(api.Msg{Kind: api.AskVote, From: 3, To: 1, Term: 2})
	n.Step(api.Msg{Kind: api.AskAppend, From: 3, To: 1, Term: 2})
	recorded(t, "nothing new", n)
	n.Step(api.Msg{Kind: api.TellVote, From: 3, To: 1, Term: 4})
	recorded(t, "a greater Term alone", n, putHard(4, 0))
	n.Step(api.Msg{Kind: api.TellVote, From: 3, To: 1, Term: 5})
	n.Step(api.Msg{Kind: api.AskVote, From: 3, To: 1, Term: 6})
	recorded(t, "several since the last call", n, putHard(6, 3))
}

// P9.8: entries from the first that is new on.
func TestRecordsOfEntries(t *testing.T) {
	n := node(1, api.Hard{Term: 1}, []uint64{1, 2}, 1, 1)
	left(n)
	n.Step(api.Msg{Kind: api.TellVote, From: 2, To: 1, Term: 2})
	recorded(t, "elected", n, putHard(2, 1), rlog.PutEntry(api.Entry{Index: 3, Term: 2}))
	n.Propose([]byte("a"))
	n.Propose([]byte("b"))
	recorded(t, "two proposals", n, putEntries(n.Log().Entries(4, 9))...)
	n.Propose(make([]byte, 4097))
	match(n, 2, 5)
	recorded(t, "nothing new", n)
	n.Change([]uint64{1})
	recorded(t, "a change", n, rlog.PutEntry(config(6, 2, 1)))

	n = five(t)
	recorded(t, "a commit isn't remembered", n)
	n.Step(api.Msg{Kind: api.AskAppend, From: 2, To: 1, Term: 5, Index: 4, LogTerm: 2, Entries: []api.Entry{entry(5, 3), entry(6, 4)}})
	recorded(t, "entries that it has", n)
	n.Step(api.Msg{Kind: api.AskAppend, From: 2, To: 1, Term: 5, Index: 4, LogTerm: 2, Entries: []api.Entry{entry(5, 3), entry(6, 5), entry(7, 5)}})
	recorded(t, "entries that it hasn't", n, rlog.PutEntry(entry(6, 5)), rlog.PutEntry(entry(7, 5)))
	n.Step(api.Msg{Kind: api.AskAppend, From: 2, To: 1, Term: 6, Index: 7, LogTerm: 5, Entries: []api.Entry{entry(8, 6)}})
	n.Step(api.Msg{Kind: api.AskAppend, From: 2, To: 1, Term: 6, Index: 4, LogTerm: 2, Entries: []api.Entry{entry(5, 6)}})
	recorded(t, "the least index since the last call", n, putHard(6, 0), rlog.PutEntry(entry(5, 6)))
}

// P9.8: a snapshot that is made, ahead of the hard state and the entries.
func TestRecordsOfACompaction(t *testing.T) {
	n := committed(t, 1, 2, 3)
	n.Propose([]byte("x"))
	n.Propose([]byte("y"))
	n.Records()
	match(n, 2, 3)
	n.Committed(9)
	n.Compact(2, []byte("s"))
	snap := rlog.PutSnap(api.Snap{Index: 2, Term: 1, Members: []uint64{1, 2, 3}, Data: []byte("s")})
	recorded(t, "a snapshot alone", n, snap)
	n.Compact(9, nil)
	recorded(t, "none", n)

	n = committed(t, 1, 2, 3)
	n.Propose([]byte("x"))
	n.Propose([]byte("y"))
	match(n, 2, 3)
	n.Committed(9)
	n.Compact(2, []byte("s"))
	n.Step(api.Msg{Kind: api.TellVote, To: 1, Term: 8})
	recorded(t, "a snapshot of what is new", n, snap, putHard(8, 0), rlog.PutEntry(api.Entry{Index: 3, Term: 1, Data: []byte("y")}))

	n = committed(t, 1, 2, 3)
	n.Propose([]byte("x"))
	n.Records()
	match(n, 2, 2)
	n.Committed(9)
	n.Propose([]byte("y"))
	n.Propose([]byte("z"))
	n.Compact(1, nil)
	recorded(t, "a snapshot, an entry that is old, two that are new", n, append([][]byte{rlog.PutSnap(api.Snap{Index: 1, Term: 1, Members: []uint64{1, 2, 3}})}, putEntries(n.Log().Entries(3, 9))...)...)

	n = committed(t, 1, 2, 3)
	n.Propose([]byte("x"))
	match(n, 2, 2)
	n.Committed(9)
	n.Compact(2, nil)
	recorded(t, "a snapshot of all that is new", n, rlog.PutSnap(api.Snap{Index: 2, Term: 1, Members: []uint64{1, 2, 3}}))
}

// P9.8: a snapshot that came, and all that stayed, if some were new.
func TestRecordsOfASnapshotThatCame(t *testing.T) {
	s := api.Snap{Index: 5, Term: 3, Members: []uint64{1, 2}, Data: []byte("s")}
	n := five(t)
	n.Step(snapped(s))
	recorded(t, "nothing was new", n, rlog.PutSnap(s))

	more := api.Msg{Kind: api.AskAppend, From: 2, To: 1, Term: 5, Index: 6, LogTerm: 4, Entries: []api.Entry{entry(7, 5)}}
	n = five(t)
	n.Step(more)
	n.Step(snapped(s))
	recorded(t, "some were new", n, rlog.PutSnap(s), rlog.PutEntry(entry(6, 4)), rlog.PutEntry(entry(7, 5)))

	n = five(t)
	n.Step(snapped(s))
	n.Step(more)
	recorded(t, "some are new", n, rlog.PutSnap(s), rlog.PutEntry(entry(7, 5)))

	other := s
	other.Term = 5
	n = five(t)
	n.Step(more)
	n.Step(snapped(other))
	recorded(t, "nothing stayed", n, rlog.PutSnap(other))
	n.Step(api.Msg{Kind: api.AskAppend, From: 2, To: 1, Term: 6, Index: 5, LogTerm: 5, Entries: []api.Entry{entry(6, 5)}})
	recorded(t, "later", n, putHard(6, 0), rlog.PutEntry(entry(6, 5)))

	n = five(t)
	n.Step(api.Msg{Kind: api.AskSnap, From: 2, To: 1, Term: 7, Snap: s})
	recorded(t, "in a greater Term", n, rlog.PutSnap(s), putHard(7, 0))

	// A snapshot that came, and one that is made behind it: the one that there is.
	n = five(t)
	n.Step(snapped(s))
	n.Restored()
	more.Commit = 7
	n.Step(more)
	n.Committed(1)
	is(t, "Compact behind a snapshot that came", n.Compact(6, []byte("six")), api.OK)
	recorded(t, "both", n, rlog.PutSnap(api.Snap{Index: 6, Term: 4, Members: []uint64{1, 2}, Data: []byte("six")}), rlog.PutEntry(entry(7, 5)))
}

// P9.8: what is remembered is replayed to the same, wherever the records are
// taken.
func TestRecordsAreReplayed(t *testing.T) {
	s := api.Snap{Index: 2, Term: 1, Members: []uint64{1, 2, 3}}
	do := []func(n *Node){
		func(n *Node) {
			n.Step(api.Msg{Kind: api.AskAppend, From: 3, To: 1, Term: 5, Index: 2, LogTerm: 1, Entries: []api.Entry{entry(3, 2), entry(4, 2), entry(5, 3), entry(6, 4)}})
		},
		func(n *Node) {
			n.Step(api.Msg{Kind: api.AskAppend, From: 2, To: 1, Term: 6, Index: 4, LogTerm: 2, Commit: 4, Entries: []api.Entry{entry(5, 6), entry(6, 6)}})
		},
		func(n *Node) { n.Committed(9); n.Compact(4, []byte("four")) },
		func(n *Node) {
			n.Step(api.Msg{Kind: api.AskAppend, From: 2, To: 1, Term: 6, Index: 6, LogTerm: 6, Commit: 5, Entries: []api.Entry{entry(7, 6), entry(8, 6)}})
		},
		func(n *Node) {
			n.Step(api.Msg{Kind: api.AskSnap, From: 2, To: 1, Term: 6, Snap: api.Snap{Index: 7, Term: 6, Members: []uint64{1, 2}}})
		},
		func(n *Node) { left(n) },
		func(n *Node) { n.Step(api.Msg{Kind: api.TellVote, From: 2, To: 1, Term: n.Hard().Term}) },
		func(n *Node) { n.Propose([]byte("x")) },
		func(n *Node) { match(n, 2, 10) },
		func(n *Node) { n.Restored(); n.Committed(2); n.Compact(9, []byte("nine")) },
		func(n *Node) { n.Change([]uint64{1, 2, 4}) },
		func(n *Node) {
			n.Step(api.Msg{Kind: api.AskSnap, From: 2, To: 1, Term: 9, Snap: api.Snap{Index: 12, Term: 9, Members: []uint64{1, 2}}})
		},
	}
	for takes := range 1 << len(do) {
		n := New(1, api.Hard{Term: 4}, rlog.New(s))
		disk := [][]byte{rlog.PutSnap(s), putHard(4, 0)}
		for i, f := range do {
			f(n)
			if takes&(1<<i) != 0 || i == len(do)-1 {
				disk = append(disk, n.Records()...)
				h, l, e := rlog.Replay(disk)
				own := n.Log()
				if e != api.OK || h != n.Hard() || !sameSnap(l.Snap(), own.Snap()) || !sameEntries(l.Entries(l.First(), 99), own.Entries(own.First(), 99)) {
					t.Fatalf("%b, behind %d: %v, %v, %v; want %v, %v", takes, i, h, l, e, n.Hard(), own)
				}
			}
		}
		if n.Log().Last() != 12 || n.Log().First() != 13 || n.Hard() != (api.Hard{Term: 9}) {
			t.Fatalf("%b: not all was done: %v", takes, n.Log())
		}
	}
}

// P9.8: messages once, in their order.
func TestOutbox(t *testing.T) {
	n := node(1, api.Hard{Term: 1}, []uint64{1, 2, 3})
	sent(t, "new", n)
	n.Step(api.Msg{Kind: api.AskVote, From: 2, To: 1, Term: 1})
	n.Step(api.Msg{Kind: api.AskVote, From: 3, To: 1, Term: 1})
	n.Step(api.Msg{Kind: api.AskAppend, From: 2, To: 1, Term: 1})
	sent(t, "three", n,
		api.Msg{Kind: api.TellVote, From: 1, To: 2, Term: 1},
		api.Msg{Kind: api.TellVote, From: 1, To: 3, Term: 1, Reject: true},
		api.Msg{Kind: api.TellMatch, From: 1, To: 2, Term: 1})
	sent(t, "twice", n)
	// A message has the Term of when it was sent.
	n.Step(api.Msg{Kind: api.AskAppend, From: 2, To: 1, Term: 1})
	n.Step(api.Msg{Kind: api.AskAppend, From: 3, To: 1, Term: 2})
	sent(t, "two Terms", n, api.Msg{Kind: api.TellMatch, From: 1, To: 2, Term: 1}, api.Msg{Kind: api.TellMatch, From: 1, To: 3, Term: 2})
	// What was handed out stays as it is.
	n.Step(api.Msg{Kind: api.AskAppend, From: 2, To: 1, Term: 2})
	first := n.Outbox()
	n.Step(api.Msg{Kind: api.AskAppend, From: 3, To: 1, Term: 2})
	n.Step(api.Msg{Kind: api.AskAppend, From: 3, To: 1, Term: 2})
	if len(first) != 1 || first[0].To != 2 {
		t.Errorf("what was handed out is another: %v", first)
	}
}

// P9.8: committed entries once, in their order, at most so many.
func TestCommitted(t *testing.T) {
	n := leader(t, 1, 2, 3)
	for i := range 9 {
		n.Propose(fmt.Append(nil, i))
	}
	none := func(what string, mosts ...int) {
		t.Helper()
		for _, most := range mosts {
			if l := n.Committed(most); len(l) != 0 {
				t.Errorf("%s: Committed(%d): %v", what, most, l)
			}
		}
	}
	none("nothing is committed", -1, 0, 1, 9)
	match(n, 2, 8)
	none("at most none", 0, -1, math.MinInt)
	given := uint64(0)
	for _, c := range []struct{ most, count int }{{1, 1}, {3, 3}, {1, 1}, {math.MaxInt, 3}} {
		want := n.Log().Entries(given+1, c.count)
		if l := n.Committed(c.most); !sameEntries(l, want) {
			t.Errorf("Committed(%d): %v, want %v", c.most, l, want)
		}
		given += uint64(c.count)
	}
	none("all is given out", 1, 9, math.MaxInt)
	match(n, 3, 10)
	if l := n.Committed(2); len(l) != 2 || l[0].Index != 9 || l[1].Index != 10 {
		t.Errorf("the last ones: %v", l)
	}
	none("all is given out", 1)
}

// P9.8: a snapshot that came, once; what stands behind it is given out behind
// it alone.
func TestRestored(t *testing.T) {
	n := five(t)
	if s, ok := n.Restored(); ok || !sameSnap(s, api.Snap{}) {
		t.Errorf("none came: %v", s)
	}
	n.Committed(1)
	s := api.Snap{Index: 5, Term: 3, Members: []uint64{1, 2}, Data: []byte("s")}
	n.Step(snapped(s))
	n.Step(api.Msg{Kind: api.AskAppend, From: 2, To: 1, Term: 5, Index: 6, LogTerm: 4, Commit: 7, Entries: []api.Entry{entry(7, 5)}})
	stands(t, "behind it", n, Follower, 5, 2, 7)
	if l := n.Committed(9); len(l) != 0 {
		t.Errorf("ahead of Restored %v is given out", l)
	}
	is(t, "Compact ahead of Restored", n.Compact(6, nil), api.ErrRange)
	if got, ok := n.Restored(); !ok || !sameSnap(got, s) {
		t.Errorf("Restored %v, %v", got, ok)
	}
	if got, ok := n.Restored(); ok || !sameSnap(got, api.Snap{}) {
		t.Errorf("Restored twice: %v", got)
	}
	if l := n.Committed(9); !sameEntries(l, []api.Entry{entry(6, 4), entry(7, 5)}) {
		t.Errorf("behind Restored %v is given out", l)
	}
	is(t, "Compact behind Restored", n.Compact(6, nil), api.OK)
}

// P9.8: a node that nobody made does nothing.
func TestNobodyMade(t *testing.T) {
	for what, n := range map[string]*Node{"nil": nil, "zero": {}} {
		for range 30 {
			n.Tick(3)
		}
		for _, kind := range kinds {
			n.Step(api.Msg{Kind: kind, Term: 4, Index: 0, Commit: 1, Entries: []api.Entry{entry(1, 4)}, Snap: api.Snap{Index: 3}})
		}
		for _, size := range []int{0, 1, 4096, 4097} {
			i, e := n.Propose(make([]byte, size))
			is(t, what+": Propose", e, api.ErrRange)
			j, e := n.Change([]uint64{1})
			is(t, what+": Change", e, api.ErrRange)
			if i != 0 || j != 0 {
				t.Errorf("%s: %d, %d", what, i, j)
			}
		}
		_, e := n.Change(nil)
		is(t, what+": Change to none", e, api.ErrRange)
		for _, i := range []uint64{0, 1, math.MaxUint64} {
			is(t, what+": Compact", n.Compact(i, []byte("s")), api.ErrRange)
		}
		if len(n.Records()) != 0 || len(n.Outbox()) != 0 || len(n.Committed(9)) != 0 {
			t.Errorf("%s: there is something", what)
		}
		if s, ok := n.Restored(); ok || !sameSnap(s, api.Snap{}) {
			t.Errorf("%s: Restored %v", what, s)
		}
		stands(t, what, n, 0, 0, 0, 0)
		if n.Hard() != (api.Hard{}) || n.Log() != nil {
			t.Errorf("%s: %v, %v", what, n.Hard(), n.Log())
		}
	}
}

// spoil changes all that a message holds.
func spoil(l []api.Msg) {
	for i := range l {
		for j := range l[i].Entries {
			spoilEntry(&l[i].Entries[j])
		}
		spoilSnap(&l[i].Snap)
		l[i] = api.Msg{Kind: 99}
	}
}

func spoilEntry(e *api.Entry) {
	for i := range e.Data {
		e.Data[i] = '!'
	}
	*e = api.Entry{Index: 77, Kind: 9}
}

func spoilSnap(s *api.Snap) {
	for i := range s.Data {
		s.Data[i] = '!'
	}
	for i := range s.Members {
		s.Members[i] = 88
	}
}

// P2: two nodes that are asked the same tell the same, though all that one is
// handed, and hands out, is spoilt at once.
func TestNothingIsShared(t *testing.T) {
	a, b := five(t), five(t)
	for round := range uint64(3) {
		later := api.Msg{Kind: api.TellVote, To: 1, Term: b.Hard().Term + 1}
		a.Step(later)
		b.Step(later)
		for _, kind := range kinds {
			msg := func() api.Msg {
				last := b.Log().Last()
				term, _ := b.Log().Term(last)
				m := api.Msg{Kind: kind, From: 2, To: 1, Term: b.Hard().Term, Index: last, LogTerm: term, Commit: last + round}
				m.Entries = []api.Entry{entry(last+1, term), config(last+2, term, 1, 2, 3)}
				m.Snap = api.Snap{Index: last + 1, Term: term, Members: []uint64{3, 2, 1}, Data: []byte("snapshot")}
				return m
			}
			given, kept := msg(), msg()
			// There is room behind each list, which is nobody's.
			given.Entries = append(given.Entries, entry(99, 99))[:2]
			b.Step(kept)
			a.Step(given)
			if !sameMsg(given, kept) || given.Entries[:3][2].Index != 99 {
				t.Fatalf("Step changed what it was given: %+v", given)
			}
			spoil([]api.Msg{given})
			spoilt(t, a, b)
		}
		for b.role != Candidate {
			a.Tick(0)
			b.Tick(0)
		}
		vote := api.Msg{Kind: api.TellVote, From: 2, To: 1, Term: b.Hard().Term}
		a.Step(vote)
		b.Step(vote)
		match(a, 2, a.Log().Last())
		match(b, 2, b.Log().Last())
		data, members := []byte("proposal"), append([]uint64{3, 2, 1, 4}, 99)[:4]
		b.Propose([]byte("proposal"))
		a.Propose(data)
		b.Change(slices.Clone(members))
		if _, e := a.Change(members); e != api.OK || string(data) != "proposal" || members[0] != 3 || members[2] != 1 {
			t.Fatalf("%v; changed: %s, %v", e, data, members)
		}
		clear(data)
		clear(members)
		spoilt(t, a, b)
		match(a, 2, a.Log().Last())
		match(b, 2, b.Log().Last())
		match(a, 3, a.Log().Last())
		match(b, 3, b.Log().Last())
		spoilt(t, a, b)
		data = []byte("compaction")
		i := b.Log().First()
		b.Compact(i, []byte("compaction"))
		if e := a.Compact(i, data); e != api.OK || string(data) != "compaction" {
			t.Fatalf("Compact: %v, %s", e, data)
		}
		clear(data)
		spoilt(t, a, b)
	}
}

// spoilt holds one node to another, and spoils all that it hands out.
func spoilt(t *testing.T, a, b *Node) {
	t.Helper()
	for range 2 {
		aOut, bOut := a.Outbox(), b.Outbox()
		if !slices.EqualFunc(aOut, bOut, sameMsg) {
			t.Fatalf("Outbox %+v, want %+v", aOut, bOut)
		}
		// What one message holds isn't in another one.
		for i := range aOut {
			spoil(aOut[i : i+1])
			if !slices.EqualFunc(aOut[i+1:], bOut[i+1:], sameMsg) {
				t.Fatalf("messages share memory: %+v", aOut[i+1:])
			}
		}
		aRecords, bRecords := a.Records(), b.Records()
		if !slices.EqualFunc(aRecords, bRecords, bytes.Equal) {
			t.Fatalf("Records %x, want %x", aRecords, bRecords)
		}
		for i := range aRecords {
			clear(aRecords[i])
			if !slices.EqualFunc(aRecords[i+1:], bRecords[i+1:], bytes.Equal) {
				t.Fatalf("records share memory: %x", aRecords[i+1:])
			}
		}
		aSnap, aCame := a.Restored()
		bSnap, bCame := b.Restored()
		if aCame != bCame || !sameSnap(aSnap, bSnap) {
			t.Fatalf("Restored %v, %v; want %v, %v", aSnap, aCame, bSnap, bCame)
		}
		spoilSnap(&aSnap)
		aGiven, bGiven := a.Committed(3), b.Committed(3)
		if !sameEntries(aGiven, bGiven) {
			t.Fatalf("Committed %v, want %v", aGiven, bGiven)
		}
		for i := range aGiven {
			spoilEntry(&aGiven[i])
		}
		aLog, bLog := a.Log(), b.Log()
		if !sameSnap(aLog.Snap(), bLog.Snap()) || !sameEntries(aLog.Entries(aLog.First(), 99), bLog.Entries(bLog.First(), 99)) {
			t.Fatalf("Log %v, want %v", aLog, bLog)
		}
		if a.Hard() != b.Hard() {
			t.Fatalf("Hard %v, want %v", a.Hard(), b.Hard())
		}
		role, term, leader, commit := b.State()
		stands(t, "spoilt", a, role, term, leader, commit)
	}
}

// P1: nothing panics though somebody else works on the log that a node hands
// out.
func TestLogThatOthersWorkOn(t *testing.T) {
	n := leader(t, 1, 2, 3)
	n.Propose([]byte("x"))
	n.Propose([]byte("y"))
	match(n, 2, 3)
	n.Log().Append(config(2, 1, 1, 2, 3, 4, 5))
	for _, from := range []uint64{2, 3, 4, 5} {
		n.Step(api.Msg{Kind: api.TellMatch, From: from, To: 1, Term: 1, Reject: true, Hint: math.MaxUint64})
		match(n, from, 2)
	}
	n.Tick(0)
	n.Log().Compact(2, nil)
	n.Tick(0)
	n.Committed(9)
	n.Compact(3, nil)
	n.Records()
	*n.Log() = *rlog.New(api.Snap{Index: 1 << 62, Term: 9, Members: []uint64{1, 2}})
	match(n, 2, 1<<62)
	stands(t, "a snapshot is no entry", n, Leader, 1, 1, 3)
	*n.Log() = *rlog.New(api.Snap{Index: 1 << 62})
	n.Tick(0)
	n.Propose(nil)
	n.Committed(9)
	n.Records()
	n.Outbox()
	*n.Log() = rlog.Log{}
	n.Tick(0)
	n.Propose(nil)
	n.Committed(9)
	n.Compact(1, nil)
	n.Step(api.Msg{Kind: api.AskAppend, From: 2, To: 1, Term: 2, Commit: 9, Entries: []api.Entry{entry(1, 1)}})
	n.Step(api.Msg{Kind: api.AskSnap, From: 2, To: 1, Term: 2, Snap: api.Snap{Index: 1 << 62}})
	n.Log().Append(entry(1<<62+1, 2), entry(1<<62+2, 2))
	n.Log().Compact(1<<62+1, nil)
	n.Restored()
	if l := n.Committed(9); len(l) != 0 {
		t.Errorf("what isn't committed is given out: %v", l)
	}
}
