package raft

import (
	"math"
	"slices"

	"plenum/api"
	"plenum/rlog"
)

// furthest is the greatest Index of a snapshot that a log begins with (P8.1).
const furthest = 1 << 62

// Step takes in a message to the node (P9.5).
func (n *Node) Step(m api.Msg) {
	if !n.made() || m.To != n.id {
		return
	}
	if m.Term > n.hard.Term {
		n.hard = api.Hard{Term: m.Term}
		n.follow(0)
	}
	if m.Term < n.hard.Term {
		n.refuse(m)
		return
	}
	switch m.Kind {
	case api.AskVote:
		n.askedVote(m)
	case api.TellVote:
		n.toldVote(m)
	case api.AskAppend:
		n.askedAppend(m)
	case api.TellMatch:
		n.toldMatch(m)
	case api.AskSnap:
		n.askedSnap(m)
	}
}

// refuse tells somebody who asks in a Term that is over of the node's own one.
func (n *Node) refuse(m api.Msg) {
	switch m.Kind {
	case api.AskVote:
		n.send(api.Msg{Kind: api.TellVote, To: m.From, Reject: true})
	case api.AskAppend, api.AskSnap:
		n.send(api.Msg{Kind: api.TellMatch, To: m.From, Reject: true})
	}
}

// askedVote grants a vote, one in a Term, to a node that has all that may be
// committed.
func (n *Node) askedVote(m api.Msg) {
	free := n.hard.Vote == 0 || n.hard.Vote == m.From
	granted := free && !n.isAhead(m.Index, m.LogTerm)
	if granted {
		n.hard.Vote = m.From
		n.rest()
	}
	n.send(api.Msg{Kind: api.TellVote, To: m.From, Reject: !granted})
}

// isAhead answers whether the node's log is ahead of one whose last entry has
// that index and term.
func (n *Node) isAhead(index, term uint64) bool {
	ownIndex, ownTerm := n.lastEntry()
	return ownTerm > term || ownTerm == term && ownIndex > index
}

// toldVote counts a vote for a candidate.
func (n *Node) toldVote(m api.Msg) {
	if n.role == Candidate && !m.Reject {
		n.count(m.From)
	}
}

// heed makes the node a follower of who leads in its Term; false, if that is
// the node itself.
func (n *Node) heed(leader uint64) bool {
	if n.role == Leader {
		return false
	}
	n.follow(leader)
	n.rest()
	return true
}

// askedAppend lays a leader's entries into the log, if they fit there, and
// tells how far the log is the leader's.
func (n *Node) askedAppend(m api.Msg) {
	if !n.heed(m.From) {
		return
	}
	term, ok := n.log.Term(m.Index)
	last := m.Index + uint64(len(m.Entries))
	switch {
	case m.Index < n.log.First()-1:
		n.tellMatch(m.From, n.commit)
	case !ok || term != m.LogTerm:
		n.send(api.Msg{Kind: api.TellMatch, To: m.From, Reject: true, Index: m.Index, Hint: n.hint(m.Index)})
	case n.lay(m.Index, m.Entries):
		n.commit = max(n.commit, min(m.Commit, last))
		n.tellMatch(m.From, last)
	}
}

// tellMatch tells a leader that the log is its own up to that index.
func (n *Node) tellMatch(to, index uint64) {
	n.send(api.Msg{Kind: api.TellMatch, To: to, Index: index})
}

// hint answers where the log may be the leader's, if it isn't at that index.
func (n *Node) hint(index uint64) uint64 {
	if index == 0 {
		return 0
	}
	return min(n.log.Last(), index-1)
}

// lay appends those of the entries behind that index that the log hasn't; false,
// if they don't stand there, or would take away what is committed.
func (n *Node) lay(behind uint64, l []api.Entry) bool {
	for i, e := range l {
		if e.Index != behind+1+uint64(i) {
			return false
		}
	}
	for len(l) > 0 && n.has(l[0]) {
		l = l[1:]
	}
	if len(l) > 0 && l[0].Index <= n.commit {
		return false
	}
	return n.log.Append(l...) == api.OK
}

// has answers whether the log has an entry of that index and term.
func (n *Node) has(e api.Entry) bool {
	term, ok := n.log.Term(e.Index)
	return ok && term == e.Term
}

// toldMatch takes in how far a member is, and sends it what it lacks.
func (n *Node) toldMatch(m api.Msg) {
	members, _ := n.members()
	if n.role != Leader || !slices.Contains(members, m.From) {
		return
	}
	p := n.progress[m.From]
	switch {
	case m.Reject:
		n.progress[m.From] = progress{next: back(p.next, m.Hint), match: p.match}
		n.sendAppend(m.From)
	case m.Index > p.match && m.Index <= n.log.Last():
		n.progress[m.From] = progress{next: m.Index + 1, match: m.Index}
		n.commitMatched()
		if m.Index < n.log.Last() {
			n.sendAppend(m.From)
		}
	}
}

// back answers the next index of a member whose log isn't the leader's there:
// hint + 1, or next - 1, if that is less, but at least 1.
func back(next, hint uint64) uint64 {
	if next < 2 {
		return 1
	}
	return min(hint, next-2) + 1
}

// askedSnap lays a leader's snapshot in the place of what it stands for, if
// that is more than what is committed.
func (n *Node) askedSnap(m api.Msg) {
	if !n.heed(m.From) {
		return
	}
	if min(m.Snap.Index, furthest) <= n.commit || n.restore(m.Snap) {
		n.tellMatch(m.From, n.commit)
	}
}

// restore lets the log become as by rlog.Replay of the snapshot; false, if that
// is none that may be.
func (n *Node) restore(s api.Snap) bool {
	_, l, bad := rlog.Replay(append(records(n.log), rlog.PutSnap(s)))
	if bad != api.OK {
		return false
	}
	if from, _ := n.log.Dirty(); from > 0 {
		// A log that is replayed is clean, but of what stayed some isn't
		// remembered: put there once more, it is new again.
		l.Append(l.Entries(l.First(), math.MaxInt)...)
	}
	n.log = l
	n.commit = l.First() - 1
	n.fresh, n.restored = true, true
	return true
}

// records answers a log's entries as records, behind what they stand behind. (A
// snapshot that is about to be replaced needs no members, which might be such
// as can't be replayed.)
func records(l *rlog.Log) [][]byte {
	s := l.Snap()
	behind := rlog.PutSnap(api.Snap{Index: s.Index, Term: s.Term})
	return append([][]byte{behind}, entryRecords(l, l.First())...)
}
