package raft

import (
	"fmt"
	"slices"
	"testing"

	"plenum/api"
	"plenum/rlog"
)

// is holds an error to what it should be.
func is(t *testing.T, what string, got, want api.Errno) {
	t.Helper()
	if got != want {
		t.Errorf("%s: %v, want %v", what, got, want)
	}
}

// entry answers an entry with some data that tells it from others.
func entry(index, term uint64) api.Entry {
	return api.Entry{Index: index, Term: term, Data: fmt.Appendf(nil, "%d in %d", index, term)}
}

// config answers an entry that tells these members.
func config(index, term uint64, members ...uint64) api.Entry {
	return api.Entry{Index: index, Term: term, Kind: api.Config, Data: rlog.PutMembers(members)}
}

// logOf answers a log behind that snapshot with entries of these terms, all of
// them remembered.
func logOf(s api.Snap, terms ...uint64) *rlog.Log {
	l := rlog.New(s)
	for _, term := range terms {
		l.Append(entry(l.Last()+1, term))
	}
	l.Clean()
	return l
}

// node answers a node of these members, with entries of these terms.
func node(id uint64, h api.Hard, members []uint64, terms ...uint64) *Node {
	return New(id, h, logOf(api.Snap{Members: members}, terms...))
}

// elect lets a node tick till it stands, and lead by the votes of others; what
// it tells till then is taken out.
func elect(t *testing.T, n *Node, voters ...uint64) {
	t.Helper()
	before := n.Hard().Term
	for n.Hard().Term == before {
		n.Tick(0)
	}
	for _, v := range voters {
		n.Step(api.Msg{Kind: api.TellVote, From: v, To: n.id, Term: n.Hard().Term})
	}
	if role, _, _, _ := n.State(); role != Leader {
		t.Fatalf("node %d isn't elected", n.id)
	}
	n.Records()
	n.Outbox()
}

// leader answers the node 1 of these members, which leads in Term 1: its first
// entry is without data.
func leader(t *testing.T, members ...uint64) *Node {
	t.Helper()
	n := node(1, api.Hard{}, members)
	elect(t, n, members[1:]...)
	return n
}

// match lets a leader hear that a member has all up to that index.
func match(n *Node, from, index uint64) {
	n.Step(api.Msg{Kind: api.TellMatch, From: from, To: n.id, Term: n.Hard().Term, Index: index})
}

// stands holds a node's State.
func stands(t *testing.T, what string, n *Node, role int, term, leader, commit uint64) {
	t.Helper()
	r, te, l, c := n.State()
	if r != role || te != term || l != leader || c != commit {
		t.Errorf("%s: State %d, %d, %d, %d; want %d, %d, %d, %d", what, r, te, l, c, role, term, leader, commit)
	}
}

// sent holds what is in the outbox.
func sent(t *testing.T, what string, n *Node, want ...api.Msg) {
	t.Helper()
	if got := n.Outbox(); !slices.EqualFunc(got, want, sameMsg) {
		t.Errorf("%s: sent %+v, want %+v", what, got, want)
	}
}

// hasTerms holds the terms of the entries in a node's log.
func hasTerms(t *testing.T, what string, n *Node, first uint64, terms ...uint64) {
	t.Helper()
	l := n.Log()
	var got []uint64
	for _, e := range l.Entries(l.First(), 1000) {
		got = append(got, e.Term)
	}
	if l.First() != first || !slices.Equal(got, terms) {
		t.Errorf("%s: entries from %d on of the terms %v, want from %d on %v", what, l.First(), got, first, terms)
	}
}

// left answers how many ticks a node has left; they are gone then.
func left(n *Node) int {
	for i := 1; i < 100; i++ {
		before := n.Hard().Term
		n.Tick(0)
		if n.Hard().Term != before {
			return i
		}
	}
	return 0
}

// P9.1: a follower without a leader, with ten ticks, of nothing.
func TestNewOfNothing(t *testing.T) {
	for what, l := range map[string]*rlog.Log{"nil": nil, "a zero log": {}, "an empty log": rlog.New(api.Snap{})} {
		h := api.Hard{Term: 7, Vote: 3}
		n := New(2, h, l)
		stands(t, what, n, Follower, 7, 0, 0)
		if n.Hard() != h {
			t.Errorf("%s: Hard %v", what, n.Hard())
		}
		if n.Log() == nil || n.Log().Last() != 0 || l != nil && n.Log() != l {
			t.Errorf("%s: another log", what)
		}
		if len(n.Records()) != 0 || len(n.Outbox()) != 0 || len(n.Committed(9)) != 0 {
			t.Errorf("%s: there is something to be told", what)
		}
		if _, ok := n.Restored(); ok {
			t.Errorf("%s: Restored", what)
		}
		for range 100 {
			n.Tick(3)
		}
		stands(t, what+", of which it is no member, behind ticks", n, Follower, 7, 0, 0)
		sent(t, what, n)
	}
}

// P9.1: what a snapshot stands for is committed and given out.
func TestNewBehindASnapshot(t *testing.T) {
	for _, index := range []uint64{1, 5, 1 << 62, 1<<62 + 9} {
		want := min(index, 1<<62)
		l := logOf(api.Snap{Index: index, Term: 2, Members: []uint64{1, 2}}, 2, 3)
		n := New(1, api.Hard{Term: 3}, l)
		stands(t, "behind a snapshot", n, Follower, 3, 0, want)
		if len(n.Committed(9)) != 0 {
			t.Errorf("snapshot %d: something is given out", index)
		}
		n.Step(api.Msg{Kind: api.AskAppend, From: 2, To: 1, Term: 3, Index: want + 2, LogTerm: 3, Commit: want + 1})
		if l := n.Committed(9); len(l) != 1 || l[0].Index != want+1 {
			t.Errorf("snapshot %d: given out: %v", index, l)
		}
		is(t, "Compact of what the snapshot stands for", n.Compact(want, nil), api.ErrRange)
		is(t, "Compact of what is given out", n.Compact(want+1, nil), api.OK)
	}
}

// P9.1: ten ticks at first, whatever the draw.
func TestNewHasTenTicks(t *testing.T) {
	for _, members := range [][]uint64{{1}, {1, 2}, {3, 2, 1}} {
		if got := left(node(1, api.Hard{}, members)); got != 10 {
			t.Errorf("members %v: %d ticks", members, got)
		}
	}
	if got := left(node(4, api.Hard{}, []uint64{1, 2, 3})); got != 0 {
		t.Errorf("no member stands behind %d ticks", got)
	}
}

// P9.1: the last entry that tells members counts, committed or not.
func TestNewWithMembersInTheLog(t *testing.T) {
	l := logOf(api.Snap{Members: []uint64{1, 2}}, 1)
	l.Append(config(2, 1, 1, 2, 3), entry(3, 1))
	n := New(3, api.Hard{Term: 1}, l)
	if got := left(n); got != 10 {
		t.Errorf("a member by an entry stands behind %d ticks", got)
	}
	var to []uint64
	for _, m := range n.Outbox() {
		to = append(to, m.To)
	}
	if !slices.Equal(to, []uint64{1, 2}) {
		t.Errorf("asked: %v", to)
	}
}

// P9.1: a majority is more than half.
func TestMajority(t *testing.T) {
	for count := 1; count <= 9; count++ {
		var members []uint64
		for m := range count {
			members = append(members, uint64(m)+1)
		}
		n := node(1, api.Hard{}, members)
		left(n)
		votes := 1
		for v := uint64(2); 2*votes <= count; v++ {
			stands(t, fmt.Sprint(votes, " votes of ", count), n, Candidate, 1, 0, 0)
			n.Step(api.Msg{Kind: api.TellVote, From: v, To: 1, Term: 1})
			votes++
		}
		if role, _, _, _ := n.State(); role != Leader {
			t.Errorf("%d votes of %d don't do", votes, count)
		}
		if n.Outbox(); count == 1 {
			continue
		}
		matched := 1
		for v := uint64(2); 2*matched <= count; v++ {
			stands(t, fmt.Sprint(matched, " that match of ", count), n, Leader, 1, 1, 0)
			match(n, v, 1)
			matched++
		}
		stands(t, fmt.Sprint(matched, " that match of ", count), n, Leader, 1, 1, 1)
	}
}

// P9.1: one that a snapshot names twice is one member.
func TestMembersNamedTwice(t *testing.T) {
	n := New(1, api.Hard{}, rlog.New(api.Snap{Members: []uint64{1, 3, 1, 1, 2, 3}}))
	left(n)
	stands(t, "its own vote alone", n, Candidate, 1, 0, 0)
	ask := api.Msg{Kind: api.AskVote, From: 1, Term: 1}
	to3, to2 := ask, ask
	to3.To, to2.To = 3, 2
	sent(t, "named twice", n, to3, to2)
}

// P9.2: the example: a node alone leads behind ten ticks, and commits.
func TestExampleAlone(t *testing.T) {
	n := node(1, api.Hard{}, []uint64{1})
	for range 9 {
		n.Tick(0)
	}
	stands(t, "behind nine ticks", n, Follower, 0, 0, 0)
	n.Tick(0)
	stands(t, "behind ten ticks", n, Leader, 1, 1, 1)
	sent(t, "alone", n)
	if l := n.Committed(9); !sameEntries(l, []api.Entry{{Index: 1, Term: 1}}) {
		t.Errorf("given out: %v", l)
	}
	for range 30 {
		n.Tick(5)
	}
	stands(t, "behind more ticks", n, Leader, 1, 1, 1)
	i, e := n.Propose([]byte("x"))
	if i != 2 || e != api.OK {
		t.Errorf("Propose: %d, %v", i, e)
	}
	stands(t, "behind a proposal", n, Leader, 1, 1, 2)
	sent(t, "alone", n)
}

// P9.2: behind an election there are 5 ticks, and what the draw adds.
func TestTicksByDraw(t *testing.T) {
	for _, high := range []uint64{0, 8, 1 << 40, 1<<64 - 8} {
		for draw := range uint64(8) {
			for _, members := range [][]uint64{{1, 2, 3}, {2, 3}} {
				n := node(1, api.Hard{}, members)
				for range 10 {
					n.Tick(high + draw)
				}
				n.Outbox()
				if members[0] == 2 {
					// A node that is no member has new ticks as well: as one it
					// stands when they are gone.
					n.Step(api.Msg{Kind: api.AskAppend, From: 2, To: 1, Entries: []api.Entry{config(1, 0, 1, 2)}})
				}
				if got := left(n); got != 5+int(draw) {
					t.Errorf("draw %d, members %v: %d ticks", high+draw, members, got)
				}
			}
		}
	}
}

// P9.2: what a candidate is, tells and sends, again and again.
func TestStand(t *testing.T) {
	n := node(2, api.Hard{Term: 4, Vote: 3}, []uint64{3, 1, 2}, 1, 4)
	n.Step(api.Msg{Kind: api.AskAppend, From: 3, To: 2, Term: 4, Index: 2, LogTerm: 4})
	n.Outbox()
	stands(t, "ahead of it", n, Follower, 4, 3, 0)
	for term := uint64(5); term < 9; term++ {
		for n.Hard().Term < term {
			n.Tick(0)
		}
		stands(t, "a candidate", n, Candidate, term, 0, 0)
		if n.Hard() != (api.Hard{Term: term, Vote: 2}) {
			t.Errorf("Hard %v", n.Hard())
		}
		sent(t, "a candidate", n,
			api.Msg{Kind: api.AskVote, From: 2, To: 3, Term: term, Index: 2, LogTerm: 4},
			api.Msg{Kind: api.AskVote, From: 2, To: 1, Term: term, Index: 2, LogTerm: 4})
	}
}

// P9.2: the votes of an earlier election are gone.
func TestStandForgetsVotes(t *testing.T) {
	n := node(1, api.Hard{}, []uint64{1, 2, 3, 4, 5})
	left(n)
	n.Step(api.Msg{Kind: api.TellVote, From: 2, To: 1, Term: 1})
	left(n)
	n.Step(api.Msg{Kind: api.TellVote, From: 3, To: 1, Term: 2})
	stands(t, "one vote of each election", n, Candidate, 2, 0, 0)
	n.Step(api.Msg{Kind: api.TellVote, From: 2, To: 1, Term: 2})
	stands(t, "two votes", n, Leader, 2, 1, 0)
}

// P9.2: the last entry may be the snapshot's.
func TestStandBehindASnapshot(t *testing.T) {
	n := New(1, api.Hard{Term: 9}, rlog.New(api.Snap{Index: 6, Term: 8, Members: []uint64{1, 2}}))
	left(n)
	sent(t, "behind a snapshot", n, api.Msg{Kind: api.AskVote, From: 1, To: 2, Term: 10, Index: 6, LogTerm: 8})
}

// P9.2: behind the greatest Term there is none to stand in; with it, Terms
// never begin anew.
func TestNoTermBehindTheGreatest(t *testing.T) {
	greatest := ^uint64(0)
	n := node(1, api.Hard{Term: greatest - 1}, []uint64{1, 2})
	left(n)
	stands(t, "the greatest Term", n, Candidate, greatest, 0, 0)
	n.Records()
	n.Outbox()
	for range 100 {
		n.Tick(0)
	}
	stands(t, "behind more ticks", n, Candidate, greatest, 0, 0)
	sent(t, "behind more ticks", n)
	n.Step(api.Msg{Kind: api.TellVote, From: 2, To: 1, Term: greatest})
	stands(t, "elected all the same", n, Leader, greatest, 1, 0)
}

// P9.2, P9.3, P9.4: what a leader is and sends, when it is elected and at each
// tick.
func TestLead(t *testing.T) {
	n := node(2, api.Hard{Term: 1}, []uint64{3, 1, 2}, 1, 1)
	left(n)
	n.Outbox()
	n.Step(api.Msg{Kind: api.TellVote, From: 1, To: 2, Term: 2})
	stands(t, "elected", n, Leader, 2, 2, 0)
	hasTerms(t, "elected", n, 1, 1, 1, 2)
	first := api.Entry{Index: 3, Term: 2}
	if l := n.Log().Entries(3, 9); !sameEntries(l, []api.Entry{first}) {
		t.Errorf("its first entry: %v", l)
	}
	appends := func(to uint64) api.Msg {
		return api.Msg{Kind: api.AskAppend, From: 2, To: to, Term: 2, Index: 2, LogTerm: 1, Entries: []api.Entry{first}}
	}
	sent(t, "elected", n, appends(3), appends(1))
	for range 20 {
		n.Tick(1)
		sent(t, "a tick", n, appends(3), appends(1))
	}
	stands(t, "behind ticks", n, Leader, 2, 2, 0)
	match(n, 3, 3)
	sent(t, "a match of the last", n)
	n.Tick(1)
	done := api.Msg{Kind: api.AskAppend, From: 2, To: 3, Term: 2, Index: 3, LogTerm: 2, Commit: 3}
	late := appends(1)
	late.Commit = 3
	sent(t, "behind the commit", n, done, late)
}

// P9.3: a second time a leader knows nothing of what it knew the first time.
func TestLeadAgain(t *testing.T) {
	n := leader(t, 1, 2, 3)
	match(n, 2, 1)
	n.Propose([]byte("x"))
	n.Step(api.Msg{Kind: api.AskVote, From: 3, To: 1, Term: 2})
	stands(t, "a greater Term", n, Follower, 2, 0, 1)
	elect(t, n, 3)
	hasTerms(t, "elected again", n, 1, 1, 1, 3)
	n.Tick(0)
	append3 := func(to uint64) api.Msg {
		return api.Msg{Kind: api.AskAppend, From: 1, To: to, Term: 3, Index: 2, LogTerm: 1, Commit: 1, Entries: []api.Entry{{Index: 3, Term: 3}}}
	}
	sent(t, "next is Last + 1", n, append3(2), append3(3))
	match(n, 2, 1)
	stands(t, "the match is 0 again", n, Leader, 3, 1, 1)
	sent(t, "an index above the match", n, api.Msg{Kind: api.AskAppend, From: 1, To: 2, Term: 3, Index: 1, LogTerm: 1, Commit: 1,
		Entries: []api.Entry{{Index: 2, Term: 1, Data: []byte("x")}, {Index: 3, Term: 3}}})
}

// P9.4: at most 16 entries, and the snapshot where entries are gone.
func TestSendAppend(t *testing.T) {
	n := leader(t, 1, 2, 3)
	for i := range 40 {
		n.Propose(fmt.Append(nil, i))
	}
	match(n, 2, 41)
	n.Committed(5)
	is(t, "Compact", n.Compact(5, []byte("five")), api.OK)
	n.Outbox()
	snap := api.Snap{Index: 5, Term: 1, Members: []uint64{1, 2, 3}, Data: []byte("five")}
	for _, c := range []struct {
		hint   uint64
		isSnap bool
		count  int
	}{{40, false, 16}, {26, false, 15}, {25, false, 16}, {24, false, 16}, {5, false, 16}, {4, true, 0}, {0, true, 0}} {
		if c.hint == 40 {
			match(n, 3, 1) // the next index is 2: gone
			sent(t, "an entry that is gone", n, api.Msg{Kind: api.AskSnap, From: 1, To: 3, Term: 1, Snap: snap})
			match(n, 3, 10)
			sent(t, "entries that stand", n, api.Msg{Kind: api.AskAppend, From: 1, To: 3, Term: 1, Index: 10, LogTerm: 1, Commit: 41, Entries: n.Log().Entries(11, 16)})
			match(n, 3, 40)
			sent(t, "the last one", n, api.Msg{Kind: api.AskAppend, From: 1, To: 3, Term: 1, Index: 40, LogTerm: 1, Commit: 41, Entries: n.Log().Entries(41, 16)})
			continue
		}
		n.Step(api.Msg{Kind: api.TellMatch, From: 3, To: 1, Term: 1, Reject: true, Hint: c.hint})
		want := api.Msg{Kind: api.AskSnap, From: 1, To: 3, Term: 1, Snap: snap}
		if !c.isSnap {
			want = api.Msg{Kind: api.AskAppend, From: 1, To: 3, Term: 1, Index: c.hint, LogTerm: 1, Commit: 41, Entries: n.Log().Entries(c.hint+1, c.count)}
			if len(want.Entries) != c.count {
				t.Fatalf("hint %d: %d entries", c.hint, len(want.Entries))
			}
		}
		sent(t, fmt.Sprint("hint ", c.hint), n, want)
	}
}
