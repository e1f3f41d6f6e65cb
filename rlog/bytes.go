package rlog

import (
	"math"
	"slices"

	"plenum/api"
	"plenum/row"
)

// mostMembers is how many members a list has at most.
const mostMembers = 9

// The number that a record begins with tells what it is.
const (
	hardRecord  = 1
	entryRecord = 2
	snapRecord  = 3
)

// PutMembers answers a list of members as bytes: sorted, each once, the first
// nine (P8.5).
func PutMembers(l []uint64) []byte {
	l = slices.Compact(slices.Sorted(slices.Values(l)))
	l = l[:min(len(l), mostMembers)]
	w := &row.Writer{}
	w.N(uint64(len(l)))
	w.N(l...)
	return w.Bytes()
}

// OfMembers answers the list of members with just these bytes; ErrRow, if there
// is none (P8.5).
func OfMembers(b []byte) ([]uint64, api.Errno) {
	r := row.Read(b)
	var l []uint64
	var last uint64
	for range r.N(mostMembers) {
		m := r.N(math.MaxUint64)
		if m <= last {
			return nil, api.ErrRow
		}
		l = append(l, m)
		last = m
	}
	if e := r.End(); e != api.OK {
		return nil, e
	}
	return l, api.OK
}

// PutHard answers a hard state as a record (P8.5).
func PutHard(h api.Hard) []byte {
	w := &row.Writer{}
	w.N(hardRecord, h.Term, h.Vote)
	return w.Bytes()
}

// readHard reads a hard state behind its record's number.
func readHard(r *row.Reader) (api.Hard, api.Errno) {
	var h api.Hard
	h.Term = r.N(math.MaxUint64)
	h.Vote = r.N(math.MaxUint64)
	return h, r.End()
}

// PutEntry answers an entry as a record (P8.5).
func PutEntry(e api.Entry) []byte {
	w := &row.Writer{}
	w.N(entryRecord, e.Index, e.Term)
	w.I(int64(e.Kind))
	w.Text(e.Data)
	return w.Bytes()
}

// readEntry reads an entry behind its record's number.
func readEntry(r *row.Reader) (api.Entry, api.Errno) {
	var e api.Entry
	e.Index = r.N(math.MaxUint64)
	e.Term = r.N(math.MaxUint64)
	e.Kind = int(r.I())
	e.Data = r.Text(math.MaxInt)
	return e, r.End()
}

// PutSnap answers a snapshot as a record (P8.5).
func PutSnap(s api.Snap) []byte {
	w := &row.Writer{}
	w.N(snapRecord, s.Index, s.Term)
	w.Text(PutMembers(s.Members))
	w.Text(s.Data)
	return w.Bytes()
}

// readSnap reads a snapshot behind its record's number.
func readSnap(r *row.Reader) (api.Snap, api.Errno) {
	var s api.Snap
	var bad api.Errno
	s.Index = r.N(math.MaxUint64)
	s.Term = r.N(math.MaxUint64)
	s.Members, bad = OfMembers(r.Text(math.MaxInt))
	s.Data = r.Text(math.MaxInt)
	if bad != api.OK {
		return api.Snap{}, bad
	}
	return s, r.End()
}

// Replay answers the hard state and the log that records tell, one behind the
// other. ErrLog, if an entry can't be appended; ErrRow for what is no record
// (P8.6).
func Replay(l [][]byte) (api.Hard, *Log, api.Errno) {
	p := past{log: New(api.Snap{})}
	for _, b := range l {
		if e := p.replay(row.Read(b)); e != api.OK {
			return api.Hard{}, nil, e
		}
	}
	p.log.Clean()
	return p.hard, p.log, api.OK
}

// past is what the records up to one tell.
type past struct {
	hard api.Hard
	log  *Log
}

// replay does what one more record tells.
func (p *past) replay(r *row.Reader) api.Errno {
	switch r.N(snapRecord) {
	case hardRecord:
		h, bad := readHard(r)
		if bad != api.OK {
			return bad
		}
		p.hard = h
		return api.OK
	case entryRecord:
		e, bad := readEntry(r)
		if bad != api.OK {
			return bad
		}
		return p.log.Append(e)
	case snapRecord:
		s, bad := readSnap(r)
		if bad != api.OK {
			return bad
		}
		p.log = p.log.under(s)
		return api.OK
	}
	return api.ErrRow
}

// under answers a log with s for its snapshot, and with what stands in l behind
// the entry, or the snapshot, that has its Index and Term.
func (l *Log) under(s api.Snap) *Log {
	n := New(s)
	if t, ok := l.Term(n.snap.Index); ok && t == s.Term {
		n.entries = l.Entries(n.First(), math.MaxInt)
	}
	return n
}
