package raft

import (
	"math"

	"plenum/api"
	"plenum/rlog"
)

// Records answers what must be remembered ahead of all that is sent, since the
// last call: the snapshot, the hard state and the entries, as far as they are
// new (P9.8).
func (n *Node) Records() [][]byte {
	if !n.made() {
		return nil
	}
	var out [][]byte
	from, compacted := n.log.Dirty()
	if compacted || n.fresh {
		out = append(out, rlog.PutSnap(n.log.Snap()))
	}
	if n.hard != n.told {
		out = append(out, rlog.PutHard(n.hard))
	}
	if from > 0 {
		out = append(out, entryRecords(n.log, from)...)
	}
	n.log.Clean()
	n.told, n.fresh = n.hard, false
	return out
}

// entryRecords answers a log's entries from that index on, as far as they
// aren't compacted, as records.
func entryRecords(l *rlog.Log, from uint64) [][]byte {
	var out [][]byte
	for _, e := range l.Entries(max(from, l.First()), math.MaxInt) {
		out = append(out, rlog.PutEntry(e))
	}
	return out
}

// Outbox answers the messages since the last call (P9.8).
func (n *Node) Outbox() []api.Msg {
	if !n.made() {
		return nil
	}
	out := n.out
	n.out = nil
	return out
}

// Committed answers the committed entries that weren't given out yet, at most so
// many, and gives them out. Behind a snapshot that came there are none ahead of
// Restored: it stands for what is ahead of them (P9.8).
func (n *Node) Committed(most int) []api.Entry {
	if !n.made() || most < 1 || n.given >= n.commit {
		return nil
	}
	out := n.log.Entries(n.given+1, int(min(uint64(most), n.commit-n.given)))
	n.given += uint64(len(out))
	return out
}

// Restored answers a snapshot that came, once, and gives out what it stands for
// (P9.8).
func (n *Node) Restored() (api.Snap, bool) {
	if !n.made() || !n.restored {
		return api.Snap{}, false
	}
	n.restored = false
	s := n.log.Snap()
	n.given = s.Index
	return s, true
}

// State answers what the node is, its Term, the leader that it knows (0: none)
// and the index up to which entries are committed (P9.8).
func (n *Node) State() (role int, term, leader, commit uint64) {
	if !n.made() {
		return 0, 0, 0, 0
	}
	return n.role, n.hard.Term, n.leader, n.commit
}

// Hard answers the hard state (P9.8).
func (n *Node) Hard() api.Hard {
	if !n.made() {
		return api.Hard{}
	}
	return n.hard
}

// Log answers the log that the node works on, till a snapshot comes (P9.8).
func (n *Node) Log() *rlog.Log {
	if !n.made() {
		return nil
	}
	return n.log
}
