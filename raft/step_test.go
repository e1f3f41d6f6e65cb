package raft

import (
	"fmt"
	"math"
	"slices"
	"testing"

	"plenum/api"
	"plenum/rlog"
)

// kinds are all kinds of messages, and some that there are none of.
var kinds = []int{api.AskVote, api.TellVote, api.AskAppend, api.TellMatch, api.AskSnap, 0, 6, -1, math.MaxInt, math.MinInt}

// P9.5: a message to another node is nothing, whatever it tells.
func TestStepToAnother(t *testing.T) {
	for _, to := range []uint64{0, 2, 3, 9, math.MaxUint64} {
		for _, kind := range kinds {
			n := node(1, api.Hard{Term: 3}, []uint64{1, 2, 3}, 1, 3)
			n.Step(api.Msg{Kind: kind, From: 2, To: to, Term: 5, Index: 2, LogTerm: 3, Commit: 2, Snap: api.Snap{Index: 9}})
			stands(t, fmt.Sprint("kind ", kind, " to ", to), n, Follower, 3, 0, 0)
			sent(t, "to another", n)
			if len(n.Records()) != 0 {
				t.Errorf("kind %d to %d: there is something to be remembered", kind, to)
			}
			if got := left(n); got != 10 {
				t.Errorf("kind %d to %d: %d ticks", kind, to, got)
			}
		}
	}
}

// all answers a follower, a candidate and a leader in Term 1, of the members 1, 2
// and 3; the leader's log has an entry.
func all(t *testing.T) []*Node {
	candidate := node(1, api.Hard{}, []uint64{1, 2, 3})
	left(candidate)
	candidate.Records()
	candidate.Outbox()
	return []*Node{node(1, api.Hard{Term: 1, Vote: 2}, []uint64{1, 2, 3}), candidate, leader(t, 1, 2, 3)}
}

// P9.5: a greater Term is the node's, which follows nobody, whatever it was and
// whatever the kind.
func TestStepOfAGreaterTerm(t *testing.T) {
	for _, term := range []uint64{2, 3, 1 << 40, math.MaxUint64} {
		for _, kind := range kinds {
			for role, n := range all(t) {
				n.Step(api.Msg{Kind: kind, From: 9, To: 1, Term: term, Index: 0, Reject: true})
				leader, vote := uint64(0), uint64(0)
				if kind == api.AskAppend || kind == api.AskSnap {
					leader = 9
				}
				if kind == api.AskVote && role != Leader {
					vote = 9
				}
				what := fmt.Sprintf("a message of kind %d and Term %d to %d", kind, term, role)
				stands(t, what, n, Follower, term, leader, 0)
				if n.Hard() != (api.Hard{Term: term, Vote: vote}) {
					t.Errorf("%s: Hard %v", what, n.Hard())
				}
			}
		}
	}
}

// P9.5: who asks in a lesser Term is told of the greater one, who tells isn't.
func TestStepOfALesserTerm(t *testing.T) {
	for _, kind := range kinds {
		for role := range 3 {
			n := all(t)[role]
			n.Step(api.Msg{Kind: api.AskAppend, From: 3, To: 1, Term: 1})
			n.Outbox()
			n.Step(api.Msg{Kind: api.TellVote, From: 9, To: 1, Term: 7})
			n.Step(api.Msg{Kind: kind, From: 2, To: 1, Term: 6, Index: 5, LogTerm: 6, Commit: 9, Hint: 4, Entries: []api.Entry{entry(6, 6)}, Snap: api.Snap{Index: 8, Term: 6}})
			switch kind {
			case api.AskVote:
				sent(t, "AskVote", n, api.Msg{Kind: api.TellVote, From: 1, To: 2, Term: 7, Reject: true})
			case api.AskAppend, api.AskSnap:
				sent(t, "AskAppend, AskSnap", n, api.Msg{Kind: api.TellMatch, From: 1, To: 2, Term: 7, Reject: true})
			default:
				sent(t, fmt.Sprint("kind ", kind), n)
			}
			stands(t, fmt.Sprint("kind ", kind), n, Follower, 7, 0, 0)
			if n.Hard().Vote != 0 {
				t.Errorf("kind %d: Vote %d", kind, n.Hard().Vote)
			}
		}
	}
}

// P9.5: a lesser Term leaves the ticks, the leader and what is led as they are.
func TestStepOfALesserTermLeavesAll(t *testing.T) {
	for _, kind := range kinds {
		n := node(1, api.Hard{Term: 2}, []uint64{1, 2, 3})
		for range 8 {
			n.Tick(0)
		}
		n.Step(api.Msg{Kind: kind, From: 2, To: 1, Term: 1, LogTerm: 1, Index: 1})
		if got := left(n); got != 2 {
			t.Errorf("kind %d: %d ticks left", kind, got)
		}
		l := node(1, api.Hard{Term: 4}, []uint64{1, 2, 3})
		elect(t, l, 2)
		l.Step(api.Msg{Kind: kind, From: 2, To: 1, Term: 4, Index: 1})
		stands(t, fmt.Sprint("kind ", kind, " to a leader"), l, Leader, 5, 1, 0)
	}
}

// P9.5: a kind that there is none of is nothing, at the same Term.
func TestStepOfNoKind(t *testing.T) {
	for _, kind := range kinds[5:] {
		for role, n := range all(t) {
			_, term, leader, commit := n.State()
			n.Step(api.Msg{Kind: kind, From: 2, To: 1, Term: 1, Index: 1, LogTerm: 1, Commit: 1, Snap: api.Snap{Index: 4}})
			stands(t, fmt.Sprint("kind ", kind), n, role, term, leader, commit)
			sent(t, fmt.Sprint("kind ", kind), n)
			if len(n.Records()) != 0 {
				t.Errorf("kind %d: there is something to be remembered", kind)
			}
		}
	}
}

// P9.5: a vote is granted to one alone, and to none whose log is behind.
func TestAskVote(t *testing.T) {
	for _, term := range []uint64{4, 5, 6} {
		for _, vote := range []uint64{0, 2, 3} {
			for _, last := range []struct {
				index, term uint64
				behind      bool
			}{
				{2, 4, false}, {1, 4, true}, {3, 4, false}, {0, 5, false}, {1, 5, false}, {9, 3, true}, {2, 3, true}, {0, 0, true},
				{math.MaxUint64, 3, true}, {0, math.MaxUint64, false}, {math.MaxUint64, math.MaxUint64, false},
			} {
				n := node(1, api.Hard{Term: 5, Vote: vote}, []uint64{1, 2, 3}, 1, 4)
				n.Step(api.Msg{Kind: api.AskVote, From: 2, To: 1, Term: term, Index: last.index, LogTerm: last.term})
				now := max(term, 5)
				want := api.Hard{Term: now, Vote: vote}
				if term == 6 {
					want.Vote = 0
				}
				granted := term >= 5 && !last.behind && (want.Vote == 0 || want.Vote == 2)
				if granted {
					want.Vote = 2
				}
				what := fmt.Sprintf("AskVote in Term %d, Vote %d, last %v", term, vote, last)
				sent(t, what, n, api.Msg{Kind: api.TellVote, From: 1, To: 2, Term: now, Reject: !granted})
				stands(t, what, n, Follower, now, 0, 0)
				if n.Hard() != want {
					t.Errorf("%s: Hard %v, want %v", what, n.Hard(), want)
				}
			}
		}
	}
}

// P9.5: a vote that is granted leaves at least 5 ticks, one that isn't leaves
// them as they are.
func TestAskVoteLeavesTicks(t *testing.T) {
	for gone := range 10 {
		for _, reject := range []bool{false, true} {
			n := node(1, api.Hard{Term: 1}, []uint64{1, 2, 3}, 1)
			for range gone {
				n.Tick(0)
			}
			m := api.Msg{Kind: api.AskVote, From: 2, To: 1, Term: 1, Index: 1, LogTerm: 1}
			want := max(10-gone, 5)
			if reject {
				m.Index, want = 0, 10-gone
			}
			n.Step(m)
			if got := left(n); got != want {
				t.Errorf("behind %d ticks, reject %v: %d left, want %d", gone, reject, got, want)
			}
		}
	}
}

// P9.5: who asks for a vote twice gets it twice; a candidate and a leader have
// voted for themselves; who asks needn't be a member.
func TestAskVoteAgain(t *testing.T) {
	n := node(1, api.Hard{Term: 1}, []uint64{1, 2, 3})
	ask := api.Msg{Kind: api.AskVote, From: 7, To: 1, Term: 1}
	told := api.Msg{Kind: api.TellVote, From: 1, To: 7, Term: 1}
	n.Step(ask)
	n.Step(ask)
	sent(t, "twice", n, told, told)
	for _, n := range all(t)[1:] {
		told.Reject = true
		role, term, leader, commit := n.State()
		ask.Index, ask.LogTerm = 9, 9
		n.Step(ask)
		sent(t, "at one that voted for itself", n, told)
		stands(t, "at one that voted for itself", n, role, term, leader, commit)
	}
}

// P9.5: votes that are counted, and others.
func TestTellVote(t *testing.T) {
	vote := func(n *Node, from uint64, reject bool) {
		n.Step(api.Msg{Kind: api.TellVote, From: from, To: 1, Term: n.Hard().Term, Reject: reject})
	}
	n := node(1, api.Hard{}, []uint64{1, 2, 3, 4, 5})
	left(n)
	n.Outbox()
	for _, c := range []struct {
		what   string
		from   uint64
		reject bool
	}{
		{"a vote", 2, false}, {"the same vote", 2, false}, {"its own", 1, false}, {"a rejected one", 3, true}, {"another rejected one", 4, true},
		{"one of no member", 6, false}, {"one of nobody", 0, false}, {"another one of no member", 7, false},
	} {
		vote(n, c.from, c.reject)
		stands(t, c.what, n, Candidate, 1, 0, 0)
		sent(t, c.what, n)
	}
	vote(n, 4, false)
	stands(t, "the vote of who rejected first", n, Leader, 1, 1, 0)
	n.Outbox()
	vote(n, 5, false)
	vote(n, 5, true)
	stands(t, "votes for a leader", n, Leader, 1, 1, 0)
	sent(t, "votes for a leader", n)
	hasTerms(t, "votes for a leader", n, 1, 1)

	follower := node(1, api.Hard{Term: 1}, []uint64{1, 2, 3})
	vote(follower, 2, false)
	vote(follower, 3, false)
	stands(t, "votes for a follower", follower, Follower, 1, 0, 0)
	sent(t, "votes for a follower", follower)
}

// P9.5: a candidate that hears of a leader isn't one any more; votes come too
// late.
func TestTellVoteTooLate(t *testing.T) {
	n := all(t)[Candidate]
	n.Step(api.Msg{Kind: api.AskAppend, From: 3, To: 1, Term: 1})
	stands(t, "a leader", n, Follower, 1, 3, 0)
	n.Step(api.Msg{Kind: api.TellVote, From: 2, To: 1, Term: 1})
	stands(t, "a vote", n, Follower, 1, 3, 0)
}

// five answers a node of the members 1, 2, 3 in Term 5 whose log has a snapshot
// of Index 2 and Term 1 and entries of the terms 2, 2, 3, 4 from 3 to 6 on, the
// first two of them committed.
func five(t *testing.T) *Node {
	t.Helper()
	n := New(1, api.Hard{Term: 5}, logOf(api.Snap{Index: 2, Term: 1, Members: []uint64{1, 2, 3}}, 2, 2, 3, 4))
	n.Step(api.Msg{Kind: api.AskAppend, From: 3, To: 1, Term: 5, Index: 4, LogTerm: 2, Commit: 4})
	n.Outbox()
	stands(t, "ahead of it", n, Follower, 5, 3, 4)
	return n
}

// P9.5: where an append stands, by Index and LogTerm.
func TestAskAppendByIndex(t *testing.T) {
	const reject, match = true, false
	for _, c := range []struct {
		index, term         uint64
		reject              bool
		toldIndex, toldHint uint64
	}{
		{0, 0, match, 4, 0}, {1, 0, match, 4, 0}, {1, 9, match, 4, 0},
		{2, 1, match, 2, 0}, {2, 0, reject, 2, 1}, {2, 2, reject, 2, 1},
		{3, 2, match, 3, 0}, {3, 1, reject, 3, 2}, {4, 2, match, 4, 0}, {5, 3, match, 5, 0}, {5, 4, reject, 5, 4},
		{6, 4, match, 6, 0}, {6, 3, reject, 6, 5}, {6, 5, reject, 6, 5}, {7, 4, reject, 7, 6}, {7, 0, reject, 7, 6}, {8, 4, reject, 8, 6},
		{1 << 62, 0, reject, 1 << 62, 6}, {math.MaxUint64, 4, reject, math.MaxUint64, 6}, {math.MaxUint64, 0, reject, math.MaxUint64, 6},
	} {
		n := five(t)
		what := fmt.Sprintf("AskAppend at %d of %d", c.index, c.term)
		n.Step(api.Msg{Kind: api.AskAppend, From: 2, To: 1, Term: 5, Index: c.index, LogTerm: c.term})
		sent(t, what, n, api.Msg{Kind: api.TellMatch, From: 1, To: 2, Term: 5, Reject: c.reject, Index: c.toldIndex, Hint: c.toldHint})
		stands(t, what, n, Follower, 5, 2, 4)
		hasTerms(t, what, n, 3, 2, 2, 3, 4)
	}
}

// P9.5: with a log that begins at 0.
func TestAskAppendAtZero(t *testing.T) {
	n := node(1, api.Hard{Term: 5}, []uint64{1, 2}, 1)
	n.Step(api.Msg{Kind: api.AskAppend, From: 2, To: 1, Term: 5, Index: 0, LogTerm: 3})
	sent(t, "another term at 0", n, api.Msg{Kind: api.TellMatch, From: 1, To: 2, Term: 5, Reject: true})
	n.Step(api.Msg{Kind: api.AskAppend, From: 2, To: 1, Term: 5})
	sent(t, "0", n, api.Msg{Kind: api.TellMatch, From: 1, To: 2, Term: 5})
	hasTerms(t, "no entries take nothing away", n, 1, 1)
	n.Step(api.Msg{Kind: api.AskAppend, From: 2, To: 1, Term: 5, Index: 3, LogTerm: 0, Hint: 9, Commit: 9, Reject: true})
	sent(t, "far behind", n, api.Msg{Kind: api.TellMatch, From: 1, To: 2, Term: 5, Reject: true, Index: 3, Hint: 1})
	stands(t, "rejected", n, Follower, 5, 2, 0)
}

// P9.5: what the entries of an append do to the log.
func TestAskAppendOfEntries(t *testing.T) {
	l := func(from uint64, terms ...uint64) []api.Entry {
		var out []api.Entry
		for i, term := range terms {
			out = append(out, entry(from+uint64(i), term))
		}
		return out
	}
	gap := []api.Entry{entry(7, 5), entry(9, 5)}
	back := []api.Entry{entry(7, 5), entry(6, 5)}
	same := []api.Entry{entry(7, 5), entry(7, 5)}
	for _, c := range []struct {
		what        string
		index, term uint64
		entries     []api.Entry
		told        uint64 // 0: nothing
		terms       []uint64
	}{
		{"that it has", 2, 1, l(3, 2, 2, 3, 4), 6, []uint64{2, 2, 3, 4}},
		{"of which it has more", 2, 1, l(3, 2), 3, []uint64{2, 2, 3, 4}},
		{"in the middle", 3, 2, l(4, 2, 3), 5, []uint64{2, 2, 3, 4}},
		{"that it hasn't", 6, 4, l(7, 4, 5), 8, []uint64{2, 2, 3, 4, 4, 5}},
		{"some of which it has", 4, 2, l(5, 3, 4, 5), 7, []uint64{2, 2, 3, 4, 5}},
		{"the last with another term", 5, 3, l(6, 5), 6, []uint64{2, 2, 3, 5}},
		{"with another term, and one behind", 4, 2, l(5, 5, 5), 6, []uint64{2, 2, 5, 5}},
		{"one with another term in the middle", 4, 2, l(5, 5), 5, []uint64{2, 2, 5}},
		{"with another term, behind one that it has", 3, 2, l(4, 2, 4), 5, []uint64{2, 2, 4}},
		{"with another term, and behind it one that it has", 4, 2, l(5, 2, 4), 6, []uint64{2, 2, 2, 4}},
		{"with a lesser term", 5, 3, l(6, 3), 6, []uint64{2, 2, 3, 3}},
		{"in the place of a committed one", 3, 2, l(4, 3), 0, []uint64{2, 2, 3, 4}},
		{"in the place of all committed ones", 2, 1, l(3, 5, 5, 5), 0, []uint64{2, 2, 3, 4}},
		{"with a gap", 6, 4, gap, 0, []uint64{2, 2, 3, 4}},
		{"backwards", 6, 4, back, 0, []uint64{2, 2, 3, 4}},
		{"twice the same index", 6, 4, same, 0, []uint64{2, 2, 3, 4}},
		{"not from Index + 1 on", 6, 4, l(8, 5), 0, []uint64{2, 2, 3, 4}},
		{"from Index on", 6, 4, l(6, 4), 0, []uint64{2, 2, 3, 4}},
		{"that it has, not from Index + 1 on", 4, 2, l(6, 4), 0, []uint64{2, 2, 3, 4}},
		{"that it has, and a gap", 4, 2, []api.Entry{entry(5, 3), entry(7, 4)}, 0, []uint64{2, 2, 3, 4}},
		{"of Index 0", 6, 4, l(0, 4), 0, []uint64{2, 2, 3, 4}},
	} {
		n := five(t)
		n.Step(api.Msg{Kind: api.AskAppend, From: 2, To: 1, Term: 5, Index: c.index, LogTerm: c.term, Entries: c.entries})
		if c.told == 0 {
			sent(t, c.what, n)
		} else {
			sent(t, c.what, n, api.Msg{Kind: api.TellMatch, From: 1, To: 2, Term: 5, Index: c.told})
		}
		stands(t, c.what, n, Follower, 5, 2, 4)
		hasTerms(t, c.what, n, 3, c.terms...)
		for i, e := range n.Log().Entries(3, 9) {
			if want := entry(uint64(i)+3, e.Term); !sameEntries([]api.Entry{e}, []api.Entry{want}) {
				t.Errorf("%s: entry %v, want %v", c.what, e, want)
			}
		}
	}
}

// P9.5: entries that would be refused aren't looked at where the append doesn't
// stand.
func TestAskAppendRefusedAheadOfEntries(t *testing.T) {
	bad := []api.Entry{entry(9, 1), entry(3, 1)}
	n := five(t)
	n.Step(api.Msg{Kind: api.AskAppend, From: 2, To: 1, Term: 5, Index: 1, Entries: bad})
	sent(t, "below the snapshot", n, api.Msg{Kind: api.TellMatch, From: 1, To: 2, Term: 5, Index: 4})
	n.Step(api.Msg{Kind: api.AskAppend, From: 2, To: 1, Term: 5, Index: 9, Entries: bad})
	sent(t, "beyond the log", n, api.Msg{Kind: api.TellMatch, From: 1, To: 2, Term: 5, Reject: true, Index: 9, Hint: 6})
}

// P9.5: commit becomes the lesser one of Commit and the message's last index, if
// that is greater.
func TestAskAppendCommits(t *testing.T) {
	for _, c := range []struct {
		index, term uint64
		entries     []api.Entry
		commit      uint64
		want        uint64
	}{
		{4, 2, nil, 0, 4}, {4, 2, nil, 3, 4}, {4, 2, nil, 4, 4}, {4, 2, nil, 5, 4}, {4, 2, nil, math.MaxUint64, 4},
		{3, 2, nil, 6, 4}, {5, 3, nil, 4, 4}, {5, 3, nil, 5, 5}, {5, 3, nil, 6, 5}, {6, 4, nil, 5, 5}, {6, 4, nil, 6, 6}, {6, 4, nil, 7, 6},
		{4, 2, []api.Entry{entry(5, 3)}, 6, 5}, {6, 4, []api.Entry{entry(7, 5)}, 6, 6}, {6, 4, []api.Entry{entry(7, 5)}, 7, 7},
		{6, 4, []api.Entry{entry(7, 5), entry(8, 5)}, math.MaxUint64, 8}, {4, 2, []api.Entry{entry(5, 5)}, 9, 5},
		{1, 1, nil, 6, 4}, {6, 3, nil, 6, 4}, {6, 4, []api.Entry{entry(8, 5)}, 6, 4},
	} {
		n := five(t)
		n.Step(api.Msg{Kind: api.AskAppend, From: 2, To: 1, Term: 5, Index: c.index, LogTerm: c.term, Entries: c.entries, Commit: c.commit})
		stands(t, fmt.Sprint("AskAppend ", c), n, Follower, 5, 2, c.want)
	}
}

// P9.5: what comes of a leader leaves at least 5 ticks, refused or not; a
// candidate follows.
func TestAskAppendAndAskSnapLeaveTicks(t *testing.T) {
	for gone := range 10 {
		for _, m := range []api.Msg{
			{Kind: api.AskAppend}, {Kind: api.AskAppend, Index: 9}, {Kind: api.AskAppend, Entries: []api.Entry{entry(4, 1)}},
			{Kind: api.AskSnap}, {Kind: api.AskSnap, Snap: api.Snap{Index: 3, Members: []uint64{1, 2}}}, {Kind: api.AskSnap, Snap: api.Snap{Index: 3, Members: []uint64{0}}},
		} {
			n := node(1, api.Hard{Term: 1}, []uint64{1, 2, 3})
			for range gone {
				n.Tick(0)
			}
			m.From, m.To, m.Term = 2, 1, 1
			n.Step(m)
			stands(t, "heard", n, Follower, 1, 2, n.commit)
			if got, want := left(n), max(10-gone, 5); got != want {
				t.Errorf("behind %d ticks, %+v: %d left, want %d", gone, m, got, want)
			}
		}
	}
	for _, kind := range []int{api.AskAppend, api.AskSnap} {
		n := all(t)[Candidate]
		n.Step(api.Msg{Kind: kind, From: 3, To: 1, Term: 1})
		stands(t, "a candidate", n, Follower, 1, 3, 0)
	}
}

// P9.5: a leader passes over what another one asks in its Term.
func TestLeaderPassesOver(t *testing.T) {
	n := leader(t, 1, 2, 3)
	for _, m := range []api.Msg{
		{Kind: api.AskAppend, Index: 1, LogTerm: 1, Commit: 1, Entries: []api.Entry{entry(2, 1)}}, {Kind: api.AskAppend, Index: 7},
		{Kind: api.AskAppend, Entries: []api.Entry{entry(1, 0)}}, {Kind: api.AskSnap, Snap: api.Snap{Index: 5, Term: 1}}, {Kind: api.AskSnap},
	} {
		for _, from := range []uint64{1, 2, 9} {
			m.From, m.To, m.Term = from, 1, 1
			n.Step(m)
			stands(t, "a leader", n, Leader, 1, 1, 0)
			sent(t, "a leader", n)
			hasTerms(t, "a leader", n, 1, 1)
		}
	}
}

// P9.5: members are those that an append tells, and again the earlier ones, if
// it is taken away.
func TestAskAppendOfMembers(t *testing.T) {
	n := node(3, api.Hard{Term: 1}, []uint64{1, 2})
	n.Step(api.Msg{Kind: api.AskAppend, From: 1, To: 3, Term: 1, Entries: []api.Entry{config(1, 1, 1, 2, 3)}})
	if got := left(n); got != 10 {
		t.Errorf("a member by an entry has %d ticks", got)
	}
	n.Step(api.Msg{Kind: api.AskAppend, From: 1, To: 3, Term: 3, Entries: []api.Entry{entry(1, 3)}})
	if got := left(n); got != 0 {
		t.Errorf("no member any more, but %d ticks", got)
	}
}

// progressed answers a leader in Term 1 of 1, 2 and 3 whose log has 20 entries,
// of which 3 has the first 10.
func progressed(t *testing.T) *Node {
	t.Helper()
	n := leader(t, 1, 2, 3)
	for range 19 {
		n.Propose([]byte("x"))
	}
	match(n, 3, 10)
	stands(t, "ahead of it", n, Leader, 1, 1, 10)
	n.Outbox()
	return n
}

// asked answers the append that a progressed leader sends behind that index.
func asked(n *Node, to, behind, commit uint64) api.Msg {
	term := uint64(1)
	if behind == 0 {
		term = 0
	}
	return api.Msg{Kind: api.AskAppend, From: 1, To: to, Term: 1, Index: behind, LogTerm: term, Commit: commit, Entries: n.Log().Entries(behind+1, 16)}
}

// P9.5: a rejected append: the next index is the lesser one of Hint + 1 and the
// next one less one, at least 1.
func TestTellMatchRejected(t *testing.T) {
	for _, c := range []struct{ hint, behind uint64 }{
		{0, 0}, {1, 1}, {5, 5}, {8, 8}, {9, 9}, {10, 9}, {11, 9}, {12, 9}, {20, 9}, {21, 9}, {1 << 62, 9}, {math.MaxUint64 - 1, 9}, {math.MaxUint64, 9},
	} {
		n := progressed(t)
		reject := api.Msg{Kind: api.TellMatch, From: 3, To: 1, Term: 1, Reject: true, Index: 15, Hint: c.hint}
		n.Step(reject)
		sent(t, fmt.Sprint("hint ", c.hint), n, asked(n, 3, c.behind, 10))
		stands(t, fmt.Sprint("hint ", c.hint), n, Leader, 1, 1, 10)
		// Once more it goes one back, down to the first.
		reject.Hint = math.MaxUint64
		for behind := c.behind; ; behind-- {
			n.Step(reject)
			sent(t, fmt.Sprint("once more, behind ", behind), n, asked(n, 3, max(behind, 1)-1, 10))
			if behind == 0 {
				break
			}
		}
		// What matched still counts.
		match(n, 3, 10)
		sent(t, "no more than what matched", n)
		match(n, 3, 11)
		sent(t, "more than what matched", n, asked(n, 3, 11, 11))
	}
}

// P9.5: an index that is above the match and not above Last is the match.
func TestTellMatch(t *testing.T) {
	for _, index := range []uint64{0, 1, 9, 10, 21, 22, 1 << 62, math.MaxUint64} {
		n := progressed(t)
		n.Step(api.Msg{Kind: api.TellMatch, From: 3, To: 1, Term: 1, Index: index, Hint: 3})
		sent(t, fmt.Sprint("index ", index), n)
		stands(t, fmt.Sprint("index ", index), n, Leader, 1, 1, 10)
		n.Tick(0)
		sent(t, fmt.Sprint("a tick behind index ", index), n, asked(n, 2, 0, 10), asked(n, 3, 10, 10))
	}
	for index := uint64(11); index <= 20; index++ {
		n := progressed(t)
		match(n, 3, index)
		stands(t, fmt.Sprint("index ", index), n, Leader, 1, 1, index)
		if index < 20 {
			sent(t, fmt.Sprint("index ", index), n, asked(n, 3, index, index))
		} else {
			sent(t, "the last index", n)
		}
		n.Tick(0)
		sent(t, fmt.Sprint("a tick behind index ", index), n, asked(n, 2, 0, index), asked(n, 3, index, index))
	}
}

// P9.5: who is no member counts for nothing, nor does a node that doesn't lead.
func TestTellMatchOfOthers(t *testing.T) {
	for _, from := range []uint64{0, 4, 9} {
		for _, reject := range []bool{false, true} {
			n := progressed(t)
			n.Step(api.Msg{Kind: api.TellMatch, From: from, To: 1, Term: 1, Index: 20, Reject: reject})
			sent(t, "no member", n)
			stands(t, "no member", n, Leader, 1, 1, 10)
		}
	}
	for _, n := range all(t)[:2] {
		role, term, leader, commit := n.State()
		for _, reject := range []bool{false, true} {
			n.Step(api.Msg{Kind: api.TellMatch, From: 2, To: 1, Term: 1, Index: 1, Reject: reject})
			sent(t, "no leader", n)
			stands(t, "no leader", n, role, term, leader, commit)
		}
	}
}

// snapped answers the message by which a snapshot comes to a node.
func snapped(s api.Snap) api.Msg {
	return api.Msg{Kind: api.AskSnap, From: 2, To: 1, Term: 5, Snap: s}
}

// P9.5: a snapshot that isn't above commit is told what is committed.
func TestAskSnapBelowCommit(t *testing.T) {
	for index := range uint64(5) {
		for term := range uint64(4) {
			n := five(t)
			n.Step(snapped(api.Snap{Index: index, Term: term, Members: []uint64{1}, Data: []byte("s")}))
			sent(t, fmt.Sprint("snapshot ", index), n, api.Msg{Kind: api.TellMatch, From: 1, To: 2, Term: 5, Index: 4})
			stands(t, fmt.Sprint("snapshot ", index), n, Follower, 5, 2, 4)
			hasTerms(t, fmt.Sprint("snapshot ", index), n, 3, 2, 2, 3, 4)
			if _, ok := n.Restored(); ok || len(n.Records()) != 0 {
				t.Errorf("snapshot %d is restored", index)
			}
		}
	}
}

// P9.5: a snapshot above commit takes the place of what it stands for; what
// stands behind an entry of its Index and Term stays.
func TestAskSnap(t *testing.T) {
	for _, c := range []struct {
		index, term uint64
		stay        []uint64
	}{
		{5, 3, []uint64{4}}, {5, 2, nil}, {5, 4, nil}, {6, 4, nil}, {6, 3, nil}, {7, 4, nil}, {100, 5, nil},
		{1 << 62, 5, nil}, {1<<62 + 1, 5, nil}, {math.MaxUint64, 5, nil},
	} {
		n := five(t)
		want := api.Snap{Index: min(c.index, 1<<62), Term: c.term, Members: []uint64{1, 4}, Data: []byte("s")}
		given := want
		given.Index = c.index
		what := fmt.Sprintf("snapshot %d of %d", c.index, c.term)
		n.Step(snapped(given))
		sent(t, what, n, api.Msg{Kind: api.TellMatch, From: 1, To: 2, Term: 5, Index: want.Index})
		stands(t, what, n, Follower, 5, 2, want.Index)
		hasTerms(t, what, n, want.Index+1, c.stay...)
		if l := n.Committed(9); len(l) != 0 {
			t.Errorf("%s: given out: %v", what, l)
		}
		if s, ok := n.Restored(); !ok || !sameSnap(s, want) {
			t.Errorf("%s: Restored %v, %v", what, s, ok)
		}
		if !sameSnap(n.Log().Snap(), want) {
			t.Errorf("%s: the log's is %v", what, n.Log().Snap())
		}
	}
}

// P9.5: around the greatest Index that a snapshot has.
func TestAskSnapOfTheGreatestIndex(t *testing.T) {
	for _, own := range []uint64{1<<62 - 1, 1 << 62} {
		for _, index := range []uint64{1<<62 - 1, 1 << 62, 1<<62 + 1, math.MaxUint64} {
			n := New(1, api.Hard{Term: 5}, rlog.New(api.Snap{Index: own, Term: 1}))
			n.Step(snapped(api.Snap{Index: index, Term: 5}))
			want := max(own, min(index, 1<<62))
			sent(t, fmt.Sprint("snapshot ", index), n, api.Msg{Kind: api.TellMatch, From: 1, To: 2, Term: 5, Index: want})
			stands(t, fmt.Sprint("snapshot ", index), n, Follower, 5, 2, want)
			if _, ok := n.Restored(); ok != (want > own) {
				t.Errorf("snapshot %d behind %d: Restored %v", index, own, ok)
			}
		}
	}
}

// P9.5: the same snapshot once more, one with another Term and a greater one.
func TestAskSnapAgain(t *testing.T) {
	n := five(t)
	n.Step(snapped(api.Snap{Index: 8, Term: 5}))
	n.Outbox()
	n.Restored()
	n.Records()
	for _, term := range []uint64{5, 4, 6} {
		n.Step(snapped(api.Snap{Index: 8, Term: term, Data: []byte("again")}))
		sent(t, "once more", n, api.Msg{Kind: api.TellMatch, From: 1, To: 2, Term: 5, Index: 8})
		if s, ok := n.Restored(); ok || len(n.Records()) != 0 {
			t.Errorf("once more: %v", s)
		}
	}
	n.Step(snapped(api.Snap{Index: 9, Term: 5, Data: []byte("nine")}))
	sent(t, "a greater one", n, api.Msg{Kind: api.TellMatch, From: 1, To: 2, Term: 5, Index: 9})
	n.Step(snapped(api.Snap{Index: 12, Term: 5, Data: []byte("twelve")}))
	if s, ok := n.Restored(); !ok || s.Index != 12 || string(s.Data) != "twelve" {
		t.Errorf("the latest one: %v, %v", s, ok)
	}
}

// P9.5: the members of a snapshot are put and read as by rlog; such as can't be
// leave all as it is, and nothing is told.
func TestAskSnapOfMembers(t *testing.T) {
	for _, c := range []struct{ given, want []uint64 }{
		{nil, nil}, {[]uint64{4}, []uint64{4}}, {[]uint64{3, 1, 2, 1}, []uint64{1, 2, 3}},
		{[]uint64{11, 10, 9, 8, 7, 6, 5, 4, 3, 2, 1}, []uint64{1, 2, 3, 4, 5, 6, 7, 8, 9}},
	} {
		n := five(t)
		n.Step(snapped(api.Snap{Index: 9, Term: 5, Members: c.given}))
		if s, ok := n.Restored(); !ok || !slices.Equal(s.Members, c.want) {
			t.Errorf("members %v: %v, %v", c.given, s.Members, ok)
		}
	}
	n := five(t)
	n.Step(snapped(api.Snap{Index: 9, Term: 5, Members: []uint64{0, 1}}))
	sent(t, "a member 0", n)
	stands(t, "a member 0", n, Follower, 5, 2, 4)
	hasTerms(t, "a member 0", n, 3, 2, 2, 3, 4)
	if _, ok := n.Restored(); ok || len(n.Records()) != 0 {
		t.Error("a member 0: restored")
	}
}

// P9.5: a snapshot comes in whatever the members are that the node's own one
// names.
func TestAskSnapOverAnyMembers(t *testing.T) {
	for _, members := range [][]uint64{{0}, {3, 1, 1}, {1, 2, 3, 4, 5, 6, 7, 8, 9, 10, 11}} {
		n := New(1, api.Hard{Term: 5}, logOf(api.Snap{Index: 2, Term: 1, Members: members, Data: []byte("old")}, 2, 2))
		n.Step(snapped(api.Snap{Index: 3, Term: 2, Members: []uint64{1}}))
		hasTerms(t, "a snapshot over another", n, 4, 2)
		stands(t, "a snapshot over another", n, Follower, 5, 2, 3)
	}
}

// P9.4, P9.5: what a leader sends brings a follower up, entry by entry and by
// snapshot, from wherever it is.
func TestFollowerIsBroughtUp(t *testing.T) {
	for _, compact := range []uint64{0, 1, 10, 30, 60} {
		for _, terms := range [][]uint64{nil, {1}, {1, 1, 1}, {0}, {0, 0, 0, 0, 0}, slices.Repeat([]uint64{0}, 80), slices.Repeat([]uint64{1}, 20)} {
			n := leader(t, 1, 2, 3)
			for i := range 60 {
				n.Propose(fmt.Append(nil, i))
			}
			match(n, 3, 61)
			whole := n.Committed(100)
			if compact > 0 {
				is(t, "Compact", n.Compact(compact, []byte("s")), api.OK)
			}
			f := New(2, api.Hard{}, rlog.New(api.Snap{Members: []uint64{1, 2, 3}}))
			for i, term := range terms {
				e := api.Entry{Index: uint64(i) + 1, Term: term, Data: []byte("other")}
				if term == 1 {
					e = whole[i]
				}
				f.Log().Append(e)
			}
			bringUp(n, f)
			l := f.Log()
			if got := l.Entries(l.First(), 100); l.Last() != 61 || !sameEntries(got, whole[61-len(got):]) {
				t.Errorf("compact %d, %v: the log's last is %d: %v", compact, terms, l.Last(), got)
			}
			stands(t, fmt.Sprint("compact ", compact), f, Follower, 1, 1, 61)
		}
	}
}

// bringUp carries messages between two nodes over some ticks of the first.
func bringUp(n, f *Node) {
	n.Outbox()
	for range 120 {
		n.Tick(0)
		for range 4 {
			for _, m := range n.Outbox() {
				f.Step(m)
			}
			for _, m := range f.Outbox() {
				n.Step(m)
			}
		}
	}
}
