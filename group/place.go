package group

import (
	"math"

	"plenum/api"
	"plenum/disk"
	"plenum/frame"
	"plenum/raft"
	"plenum/rlog"
	"plenum/wal"
)

// place is where a node runs: its disk, and, while it is up, the node.
type place struct {
	id   uint64
	disk *disk.Disk

	wal  *wal.Wal
	node *raft.Node // nil: it is down

	applied [][]byte
	given   uint64 // the index of the last entry that was given out
}

// newPlace answers a place for a node that isn't up yet, whose disk begins with
// that snapshot; the disk's error, if it has no room for it.
func newPlace(id uint64, size int, s api.Snap) (*place, api.Errno) {
	d := disk.New(size)
	w, _, e := wal.Open(d)
	if e != api.OK {
		return nil, e
	}
	if e := w.Add(rlog.PutSnap(s)); e != api.OK {
		return nil, e
	}
	return &place{id: id, disk: d}, api.OK
}

// up answers whether there is a place, and its node is up.
func (p *place) up() bool {
	return p != nil && p.node != nil
}

// start lets the node be up as its disk remembers it; with an error it stays
// down (P11.3).
func (p *place) start() api.Errno {
	w, records, e := wal.Open(p.disk)
	if e != api.OK {
		return e
	}
	hard, log, e := rlog.Replay(records)
	if e != api.OK {
		return e
	}
	p.wal, p.node = w, raft.New(p.id, hard, log)
	p.lay(log.Snap())
	return api.OK
}

// lay puts what a snapshot stands for in the place of all that was applied
// (P11.2).
func (p *place) lay(s api.Snap) {
	p.applied, _ = OfList(s.Data)
	p.given = s.Index
}

// crash leaves of the disk what was synced, and the first keep bytes of the
// rest, and lets the node be down.
func (p *place) crash(keep int) {
	p.disk.Crash(keep, nil)
	p.wal, p.node = nil, nil
}

// crashProposing is a crash while the node writes what it needs to remember of
// a proposal, if there is data, ahead of all that it would send of it (P11.3).
func (p *place) crashProposing(keep int, data []byte) {
	if len(data) > 0 {
		p.node.Propose(data)
		var b []byte
		for _, record := range p.node.Records() {
			b = append(b, frame.Put(record)...)
		}
		p.disk.Append(b)
	}
	p.crash(keep)
}

// remember adds to the wal what the node must remember.
func (p *place) remember() api.Errno {
	l := p.node.Records()
	if len(l) == 0 {
		return api.OK
	}
	return p.wal.Add(l...)
}

// apply applies what the node gives out: the snapshot that came, and the data of
// what was committed behind it (P11.2).
func (p *place) apply() {
	if s, came := p.node.Restored(); came {
		p.lay(s)
	}
	for _, e := range p.node.Committed(math.MaxInt) {
		p.given = e.Index
		if e.Kind == api.Normal && len(e.Data) > 0 {
			p.applied = append(p.applied, e.Data)
		}
	}
}

// propose proposes data; ErrRange, if there is none: an entry without data is
// never applied (P11.3).
func (p *place) propose(data []byte) (uint64, api.Errno) {
	if len(data) == 0 {
		return 0, api.ErrRange
	}
	return p.node.Propose(data)
}

// compact puts a snapshot in the place of all that was applied, in the log and
// on the disk; if the disk can't have it, the node is down. ErrLong, if there is
// too much of it (P11.3).
func (p *place) compact() api.Errno {
	if len(p.applied) > mostTexts {
		return api.ErrLong
	}
	if e := p.node.Compact(p.given, PutList(p.applied)); e != api.OK {
		return e
	}
	if e := p.rewrite(); e != api.OK {
		p.crash(0)
		return e
	}
	return api.OK
}

// rewrite lets the wal hold nothing but what there is.
func (p *place) rewrite() api.Errno {
	// The new snapshot is among what is rewritten: it needn't be added once more.
	p.node.Records()
	log := p.node.Log()
	l := [][]byte{rlog.PutSnap(log.Snap()), rlog.PutHard(p.node.Hard())}
	for _, e := range log.Entries(log.First(), math.MaxInt) {
		l = append(l, rlog.PutEntry(e))
	}
	return p.wal.Rewrite(l...)
}
