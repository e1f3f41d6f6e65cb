package raft

import (
	"bytes"
	"fmt"
	"math"
	"math/rand"
	"slices"
	"strings"
	"testing"

	"plenum/api"
	"plenum/rlog"
)

// place is where a node runs: what is remembered there, and what it gave out.
type place struct {
	node  *Node // nil: it is down
	disk  [][]byte
	given []string
}

// world is a group of nodes, the messages on their way, and what P9.9 is held
// against: who led in which Term, and the one list of which all that is given
// out is a beginning.
type world struct {
	*rand.Rand
	t      *testing.T
	seed   int64
	places map[uint64]*place
	ids    []uint64
	lines  []api.Msg
	leads  map[uint64]uint64
	list   []string

	changes, snaps, crashes int
}

func newWorld(t *testing.T, seed int64) *world {
	w := &world{Rand: rand.New(rand.NewSource(seed)), t: t, seed: seed, places: map[uint64]*place{}, leads: map[uint64]uint64{}}
	var members []uint64
	for m := range uint64(1 + w.Intn(5)) {
		members = append(members, m+1)
	}
	for _, m := range members {
		w.add(m, api.Snap{Members: members})
	}
	return w
}

// add adds a node that remembers that snapshot alone.
func (w *world) add(id uint64, s api.Snap) {
	w.places[id] = &place{disk: [][]byte{rlog.PutSnap(s)}}
	w.ids = append(w.ids, id)
	w.start(id)
}

func (w *world) fatal(format string, args ...any) {
	w.t.Helper()
	w.t.Fatalf("seed %d: %s", w.seed, fmt.Sprintf(format, args...))
}

// start starts a node from what it remembers.
func (w *world) start(id uint64) {
	p := w.places[id]
	h, l, e := rlog.Replay(p.disk)
	if e != api.OK {
		w.fatal("what node %d remembers can't be replayed: %v", id, e)
	}
	p.node = New(id, h, l)
	p.given = split(l.Snap().Data)
	w.isBeginning(id)
}

// split and join are lists that are given out, as a snapshot's data.
func split(b []byte) []string {
	if len(b) == 0 {
		return nil
	}
	return strings.Split(string(b), "\n")
}

func join(l []string) []byte { return []byte(strings.Join(l, "\n")) }

// turn lets a node remember, send and give out, and holds it to P9.9. A node
// may crash ahead of each of them.
func (w *world) turn(id uint64) {
	p := w.places[id]
	w.leadsAlone(id)
	if w.Intn(300) == 0 {
		w.crash(id)
		return
	}
	p.disk = append(p.disk, p.node.Records()...)
	if again := p.node.Records(); len(again) > 0 {
		w.fatal("node %d tells %d records twice", id, len(again))
	}
	w.isRemembered(id)
	if w.Intn(300) == 0 {
		w.crash(id)
		return
	}
	for _, m := range p.node.Outbox() {
		if m.From != id || m.Term != p.node.Hard().Term {
			w.fatal("node %d sends %+v", id, m)
		}
		w.lines = append(w.lines, m)
	}
	w.give(id)
}

// give gives out what there is.
func (w *world) give(id uint64) {
	p := w.places[id]
	if s, ok := p.node.Restored(); ok {
		w.snaps++
		p.given = split(s.Data)
		if uint64(len(p.given)) != s.Index {
			w.fatal("a snapshot of %d stands for %d", s.Index, len(p.given))
		}
	}
	for _, e := range p.node.Committed(1 + w.Intn(5)) {
		if e.Index != uint64(len(p.given))+1 {
			w.fatal("node %d gives out %d behind %d", id, e.Index, len(p.given))
		}
		p.given = append(p.given, fmt.Sprintf("%d %d %x", e.Term, e.Kind, e.Data))
	}
	if len(p.given) > len(w.list) {
		w.list = append(w.list, p.given[len(w.list):]...)
	}
	w.isBeginning(id)
}

func (w *world) isBeginning(id uint64) {
	given := w.places[id].given
	if !slices.Equal(given, w.list[:min(len(given), len(w.list))]) {
		w.fatal("node %d gave out %q, another one %q", id, given, w.list)
	}
}

func (w *world) leadsAlone(id uint64) {
	role, term, leader, _ := w.places[id].node.State()
	if role != Leader {
		return
	}
	if who, ok := w.leads[term]; ok && who != id || leader != id {
		w.fatal("%d and %d lead in Term %d", who, id, term)
	}
	w.leads[term] = id
}

// isRemembered holds what is replayed to what there is.
func (w *world) isRemembered(id uint64) {
	p := w.places[id]
	h, l, e := rlog.Replay(p.disk)
	if e != api.OK || h != p.node.Hard() {
		w.fatal("node %d remembers %v, %v; want %v", id, h, e, p.node.Hard())
	}
	own := p.node.Log()
	if !sameSnap(l.Snap(), own.Snap()) || !sameEntries(l.Entries(l.First(), math.MaxInt), own.Entries(own.First(), math.MaxInt)) {
		w.fatal("node %d remembers another log: %v, want %v", id, l, own)
	}
}

// crash lets a node forget all but what it remembers, and start again or stay
// down.
func (w *world) crash(id uint64) {
	w.crashes++
	w.places[id].node = nil
	if w.Intn(2) == 0 {
		w.start(id)
	}
}

// deliver takes any message out of the lines: it arrives, is lost or doubled.
func (w *world) deliver() {
	if len(w.lines) == 0 {
		return
	}
	at := w.Intn(len(w.lines))
	if w.Intn(2) == 0 {
		at = 0
	}
	m := w.lines[at]
	if w.Intn(12) > 0 {
		w.lines = slices.Delete(w.lines, at, at+1)
	}
	p := w.places[m.To]
	if w.Intn(12) == 0 || p == nil || p.node == nil {
		return
	}
	p.node.Step(m)
	w.turn(m.To)
}

// step lets something happen.
func (w *world) step() {
	id := w.ids[w.Intn(len(w.ids))]
	p := w.places[id]
	k := w.Intn(100)
	switch {
	case p.node == nil:
		if k < 20 {
			w.start(id)
		}
		return
	case k < 65:
		w.deliver()
		return
	case k < 87:
		p.node.Tick(w.Uint64())
	case k < 94:
		p.node.Propose(fmt.Appendf(nil, "%d", w.Intn(1000)))
	case k < 96:
		w.change(id)
	case k < 98:
		// What is given out is all that the data stands for.
		p.node.Compact(uint64(len(p.given)), join(p.given))
	case len(w.lines) > 40:
		w.lines = w.lines[20:]
	}
	w.turn(id)
}

// change lets a node ask for a member more or less, which may be new.
func (w *world) change(id uint64) {
	l, _ := w.places[id].node.Log().Members()
	x := 1 + uint64(w.Intn(7))
	if i := slices.Index(l, x); i >= 0 {
		l = slices.Delete(l, i, i+1)
	} else {
		l = append(l, x)
	}
	if _, e := w.places[id].node.Change(l); e == api.OK {
		w.changes++
		if w.places[x] == nil {
			w.add(x, api.Snap{})
		}
	}
}

// P9.9, P9.8: groups whose messages are lost, doubled and held back, whose nodes
// crash, compact and change.
func TestAgreed(t *testing.T) {
	var terms, given, changes, snaps, crashes int
	for seed := range int64(150) {
		w := newWorld(t, seed)
		for range 1500 {
			w.step()
		}
		terms += len(w.leads)
		given += len(w.list)
		changes += w.changes
		snaps += w.snaps
		crashes += w.crashes
	}
	if terms < 500 || given < 4000 || changes < 400 || snaps < 100 || crashes < 500 {
		t.Errorf("little happens: %d Terms with a leader, %d entries, %d changes, %d snapshots, %d crashes", terms, given, changes, snaps, crashes)
	}
}

// settled lets a group run without a loss, tick by tick.
func settled(w *world, rounds int) {
	for round := range rounds {
		for _, id := range w.ids {
			w.places[id].node.Tick(uint64(round)*3 + id)
			w.turnWhole(id)
		}
		for len(w.lines) > 0 {
			m := w.lines[0]
			w.lines = w.lines[1:]
			if p := w.places[m.To]; p != nil {
				p.node.Step(m)
				w.turnWhole(m.To)
			}
		}
	}
}

// turnWhole is a turn without a crash.
func (w *world) turnWhole(id uint64) {
	p := w.places[id]
	w.leadsAlone(id)
	p.disk = append(p.disk, p.node.Records()...)
	w.isRemembered(id)
	w.lines = append(w.lines, p.node.Outbox()...)
	w.give(id)
}

// P9.2 to P9.8: where nothing is lost, what is proposed is given out by all,
// also by members that come late and lack what was compacted.
func TestAllGiveOut(t *testing.T) {
	for count := uint64(1); count <= 9; count++ {
		w := &world{Rand: rand.New(rand.NewSource(1)), t: t, places: map[uint64]*place{}, leads: map[uint64]uint64{}}
		var members []uint64
		for m := range count {
			members = append(members, m+1)
		}
		for _, m := range members {
			w.add(m, api.Snap{Members: members})
		}
		settled(w, 30)
		leader := w.leads[slices.Max(termsOf(w))]
		n := w.places[leader].node
		for i := range 50 {
			if _, e := n.Propose(fmt.Append(nil, i)); e != api.OK {
				t.Fatalf("%d members: Propose: %v", count, e)
			}
			w.turnWhole(leader)
		}
		settled(w, 20)
		if e := n.Compact(30, join(w.list[:30])); e != api.OK {
			t.Fatalf("%d members: Compact: %v", count, e)
		}
		if count < 9 {
			w.add(count+1, api.Snap{})
			if _, e := n.Change(append(members, count+1)); e != api.OK {
				t.Fatalf("%d members: Change: %v", count, e)
			}
		}
		w.turnWhole(leader)
		settled(w, 20)
		for _, id := range w.ids {
			if given := w.places[id].given; !slices.Equal(given, w.list) || len(given) < 51 {
				t.Errorf("%d members: node %d gave out %d of %d", count, id, len(given), len(w.list))
			}
		}
	}
}

func termsOf(w *world) []uint64 {
	var l []uint64
	for term := range w.leads {
		l = append(l, term)
	}
	return l
}

// P9.6, P9.9: an entry of an earlier Term that a majority has may be taken away
// till one of the leader's own Term is committed behind it.
func TestEntriesOfEarlierTermsAreNotCommittedAlone(t *testing.T) {
	n := node(1, api.Hard{Term: 3}, []uint64{1, 2, 3}, 1, 2)
	elect(t, n, 2)
	n.Step(api.Msg{Kind: api.TellMatch, From: 2, To: 1, Term: 4, Index: 2})
	stands(t, "a majority has an entry of Term 2", n, Leader, 4, 1, 0)
	n.Step(api.Msg{Kind: api.TellMatch, From: 3, To: 1, Term: 4, Index: 2})
	stands(t, "all have an entry of Term 2", n, Leader, 4, 1, 0)
	n.Step(api.Msg{Kind: api.TellMatch, From: 3, To: 1, Term: 4, Index: 3})
	stands(t, "a majority has an entry of Term 4", n, Leader, 4, 1, 3)
	if l := n.Committed(9); len(l) != 3 || !bytes.Equal(l[1].Data, entry(2, 2).Data) {
		t.Errorf("given out: %v", l)
	}
}
