package raft

import (
	"slices"

	"plenum/api"
	"plenum/rlog"
)

// mostData is how many bytes a proposal has at most, mostMembers how many
// members a list has.
const (
	mostData    = 4096
	mostMembers = 9
)

// lead makes the node the leader of its Term (P9.3).
func (n *Node) lead() {
	n.role, n.leader = Leader, n.id
	n.progress = map[uint64]progress{}
	members, _ := n.members()
	for _, m := range members {
		n.progress[m] = progress{next: n.log.Last() + 1}
	}
	n.add(api.Normal, nil)
	n.agree()
}

// add appends an entry of the node's Term, and answers its index.
func (n *Node) add(kind int, data []byte) uint64 {
	e := api.Entry{Index: n.log.Last() + 1, Term: n.hard.Term, Kind: kind, Data: data}
	n.log.Append(e)
	return e.Index
}

// agree does what a leader owes to a new entry.
func (n *Node) agree() {
	n.commitMatched()
	n.sendAppends()
}

// sendAppends sends an append to each other member, in order.
func (n *Node) sendAppends() {
	for _, m := range n.others() {
		n.sendAppend(m)
	}
}

// sendAppend sends to a member what it lacks: entries, or the snapshot, where
// there are none any more (P9.4).
func (n *Node) sendAppend(to uint64) {
	next := n.progress[to].next
	if next < n.log.First() {
		n.send(api.Msg{Kind: api.AskSnap, To: to, Snap: n.log.Snap()})
		return
	}
	term, _ := n.log.Term(next - 1)
	n.send(api.Msg{
		Kind:    api.AskAppend,
		To:      to,
		Index:   next - 1,
		LogTerm: term,
		Commit:  n.commit,
		Entries: n.log.Entries(next, api.MaxEntries),
	})
}

// commitMatched is the commit rule. An entry of an earlier Term may still be
// taken away though a majority has it: it is committed only along with one of
// the leader's own Term (P9.6).
func (n *Node) commitMatched() {
	members, at := n.members()
	for i := n.matched(members); i > n.commit && i >= n.log.First(); i-- {
		if term, _ := n.log.Term(i); term == n.hard.Term {
			n.commit = i
		}
	}
	if at <= n.commit && !slices.Contains(members, n.id) {
		n.follow(0)
	}
}

// matched answers the greatest index that a majority of the members match.
func (n *Node) matched(members []uint64) uint64 {
	var l []uint64
	for _, m := range members {
		if m == n.id {
			l = append(l, n.log.Last())
		} else {
			l = append(l, n.progress[m].match)
		}
	}
	if len(l) == 0 {
		return 0
	}
	slices.Sort(l)
	return l[(len(l)-1)/2]
}

// Propose appends an entry with that data to a leader's log, and answers its
// index (P9.7).
func (n *Node) Propose(data []byte) (uint64, api.Errno) {
	switch {
	case !n.made():
		return 0, api.ErrRange
	case len(data) > mostData:
		return 0, api.ErrLong
	case n.role != Leader:
		return 0, api.ErrLeader
	}
	index := n.add(api.Normal, data)
	n.agree()
	return index, api.OK
}

// Change appends an entry that tells these members to a leader's log, and
// answers its index. They are the group's from then on, committed or not
// (P9.7).
func (n *Node) Change(members []uint64) (uint64, api.Errno) {
	switch {
	case !n.made() || !isList(members):
		return 0, api.ErrRange
	case n.role != Leader:
		return 0, api.ErrLeader
	case !n.mayChange(members):
		return 0, api.ErrMember
	}
	old, _ := n.members()
	index := n.add(api.Config, rlog.PutMembers(members))
	for _, m := range missing(members, old) {
		n.progress[m] = progress{next: index}
	}
	for _, m := range missing(old, members) {
		delete(n.progress, m)
	}
	n.agree()
	return index, api.OK
}

// isList answers whether l is a list that a group's members may be.
func isList(l []uint64) bool {
	l = slices.Sorted(slices.Values(l))
	return len(l) > 0 && len(l) <= mostMembers && l[0] > 0 && len(slices.Compact(l)) == len(l)
}

// mayChange answers whether these may be the next members: one at a time, and
// only where no other leader's change may still take this one's place.
func (n *Node) mayChange(members []uint64) bool {
	old, at := n.members()
	more, less := len(missing(members, old)), len(missing(old, members))
	term, _ := n.log.Term(n.commit)
	return more+less == 1 && at <= n.commit && term == n.hard.Term
}

// missing answers those of l that aren't in from.
func missing(l, from []uint64) []uint64 {
	var out []uint64
	for _, m := range l {
		if !slices.Contains(from, m) {
			out = append(out, m)
		}
	}
	return out
}

// Compact puts a snapshot with that data in the place of all entries up to that
// index; ErrRange, if it wasn't given out yet, or there is no such entry
// (P9.7).
func (n *Node) Compact(i uint64, data []byte) api.Errno {
	if !n.made() || i > n.given {
		return api.ErrRange
	}
	return n.log.Compact(i, data)
}
