package group

import (
	"bytes"
	"slices"
	"testing"

	"plenum/api"
)

// P2: neither members nor fates that are handed in are changed, and a change of
// them later is nothing to the group.
func TestNewKeepsNothingOfWhatIsHandedIn(t *testing.T) {
	members := []uint64{3, 1, 2, 9, 9}
	fates := []api.Fate{{Times: 1, Delay: 1}, {Times: 2}, {Times: 3}}
	g := New(members[:3], roomy, fates[:1]...)
	if !slices.Equal(members, []uint64{3, 1, 2, 9, 9}) || fates[0] != (api.Fate{Times: 1, Delay: 1}) {
		t.Fatalf("changed: %v, %v", members, fates)
	}
	clear(members)
	clear(fates)
	if !slices.Equal(g.Nodes(), []uint64{1, 2, 3}) {
		t.Errorf("nodes %v", g.Nodes())
	}
	for range 10 {
		do(t, g, tick(1))
	}
	if n := g.lines.Waiting(); n != 2 { // one held back, one at once, none lost
		t.Errorf("%d wait", n)
	}
	do(t, g, deliver)
	do(t, g, api.Act{Kind: api.ActTime})
	settle(t, g)
	if id, is := g.Leader(); id != 1 || !is {
		t.Errorf("%d, %v leads", id, is)
	}
}

// P2: Data that is handed in is not changed, not kept, and not read behind its
// length.
func TestDoKeepsNothingOfWhatIsHandedIn(t *testing.T) {
	g := led(t, roomy, 1, 2)
	data := append([]byte("x"), "hidden"...)
	do(t, g, api.Act{Kind: api.ActPropose, Node: 1, Data: data[:1]})
	if string(data) != "xhidden" {
		t.Fatalf("changed: %q", data)
	}
	spoil(data)
	data = append([]byte("y"), "hidden"...)
	spread(t, g, 1)
	do(t, g, api.Act{Kind: api.ActCrash, Node: 1, Keep: 1000, Data: data[:1]})
	if string(data) != "yhidden" {
		t.Fatalf("changed: %q", data)
	}
	spoil(data)
	do(t, g, start(1))
	lead(t, g, 1)
	spread(t, g, 1)
	for _, id := range g.Nodes() {
		applied(t, g, id, "x", "y")
	}
	fails(t, g, api.Act{Kind: api.ActPropose, Node: 1, Data: data[:0]}, api.ErrRange)
}

// P2: what is handed out may be changed, and has nothing behind its length.
func TestAnswersMayBeChanged(t *testing.T) {
	g := led(t, roomy, 1, 2)
	do(t, g, propose(1, "a"))
	do(t, g, propose(1, "bc"))
	spread(t, g, 1)
	for range 3 {
		for _, id := range g.Nodes() {
			l := g.Applied(id)
			again := g.Applied(id)
			for i := range l {
				spoil(l[i])
			}
			if !sameList(again, bytesOf("a", "bc")) {
				t.Fatalf("node %d: another answer was changed: %q", id, again)
			}
			for i := range l[:cap(l)] {
				l[:cap(l)][i] = []byte("!")
			}
			applied(t, g, id, "a", "bc")
		}
		nodes := g.Nodes()
		for i := range nodes[:cap(nodes)] {
			nodes[:cap(nodes)][i] = 77
		}
		if !slices.Equal(g.Nodes(), []uint64{1, 2}) {
			t.Fatalf("nodes %v", g.Nodes())
		}
	}
	// What is compacted, sent and replayed is as it was.
	do(t, g, compact(1))
	spoil(g.Applied(1)[0])
	do(t, g, add(1, 3))
	spread(t, g, 1)
	applied(t, g, 3, "a", "bc")
	do(t, g, crash(1))
	do(t, g, start(1))
	l := g.Applied(1)
	spoil(l[0])
	l = append(l, []byte("!"))
	applied(t, g, 1, "a", "bc")
	if string(l[1]) != "bc" {
		t.Errorf("a change of one text changed another: %q", l)
	}
}

// P2: an answer is not changed by what is done later.
func TestAnswersStayAsTheyAre(t *testing.T) {
	g := led(t, roomy, 1)
	do(t, g, propose(1, "a"))
	l, nodes := g.Applied(1), g.Nodes()
	for _, s := range numbered(20) {
		do(t, g, propose(1, s))
	}
	do(t, g, add(1, 2))
	do(t, g, crash(1))
	do(t, g, start(1))
	if !sameList(l, bytesOf("a")) || !slices.Equal(nodes, []uint64{1}) {
		t.Errorf("changed: %q, %v", l, nodes)
	}
}

// P2: nodes share no memory with each other by what they send.
func TestNodesShareNoMemory(t *testing.T) {
	g := led(t, roomy, 1, 2, 3)
	do(t, g, propose(1, "abc"))
	spread(t, g, 1)
	spoil(g.nodes[1].applied[0])
	applied(t, g, 2, "abc")
	applied(t, g, 3, "abc")
	for _, id := range g.Nodes() {
		log := g.nodes[id].node.Log()
		if l := log.Entries(2, 1); len(l) != 1 || string(l[0].Data) != "abc" {
			t.Errorf("node %d's log: %v", id, l)
		}
	}
	do(t, g, compact(2))
	before := g.nodes[2].node.Log().Snap()
	spoil(g.nodes[2].applied[0])
	if s := g.nodes[2].node.Log().Snap(); !bytes.Equal(s.Data, before.Data) {
		t.Errorf("the snapshot was changed: %q", s.Data)
	}
}

// P3: no list and an empty one are the same, and the same calls answer the same.
func TestTheSame(t *testing.T) {
	a, b := New([]uint64{2, 1}, roomy), New([]uint64{1, 2}, roomy, []api.Fate{}...)
	for _, g := range []*Group{a, b} {
		g.Run(40, 5)
		id, _ := g.Leader()
		do(t, g, propose(id, "x"))
		do(t, g, api.Act{Kind: api.ActCrash, Node: 3 - id, Data: []byte{}})
		do(t, g, start(3-id))
		g.Run(20, 6)
	}
	for _, id := range a.Nodes() {
		if !sameList(a.Applied(id), b.Applied(id)) || len(a.Applied(id)) != 1 {
			t.Errorf("node %d: %q and %q", id, a.Applied(id), b.Applied(id))
		}
		if !bytes.Equal(a.nodes[id].disk.Bytes(), b.nodes[id].disk.Bytes()) {
			t.Errorf("node %d: the disks differ", id)
		}
	}
}
