package group

import (
	"math"
	"slices"
	"testing"

	"plenum/api"
	"plenum/raft"
	"plenum/rlog"
)

// atNodes are the Kinds that a node is asked for.
var atNodes = []int{api.ActTick, api.ActPropose, api.ActCrash, api.ActStart, api.ActAdd, api.ActRemove, api.ActCompact}

// P11.3: each Kind at a node that is up: what it answers.
func TestKindsAtANodeThatIsUp(t *testing.T) {
	for _, c := range []struct {
		name string
		act  api.Act
		n    uint64
		e    api.Errno
	}{
		{"ActTick", api.Act{Kind: api.ActTick, Node: 1, Draw: 5}, 0, api.OK},
		{"ActTick of a follower", tick(2), 0, api.OK},
		{"ActPropose", propose(1, "y"), 3, api.OK},
		{"ActPropose of a follower", propose(2, "y"), 0, api.ErrLeader},
		{"ActCrash", crash(1), 0, api.OK},
		{"ActCrash with a proposal", api.Act{Kind: api.ActCrash, Node: 1, Data: []byte("y"), Keep: 99}, 0, api.OK},
		{"ActCrash of a follower", api.Act{Kind: api.ActCrash, Node: 2, Data: []byte("y")}, 0, api.OK},
		{"ActStart", start(1), 0, api.ErrNone},
		{"ActCut", cut(1, 2), 0, api.OK},
		{"ActMend", mend(1, 2), 0, api.OK},
		{"ActAdd", add(1, 4), 3, api.OK},
		{"ActRemove", remove(1, 2), 3, api.OK},
		{"ActCompact", compact(1), 0, api.OK},
		{"ActCompact of a follower", compact(2), 0, api.OK},
		{"ActTime", api.Act{Kind: api.ActTime, Node: 1}, 0, api.OK},
		{"ActDeliver", api.Act{Kind: api.ActDeliver, Node: 1}, 0, api.ErrNone},
		{"12", api.Act{Kind: 12, Node: 1, Other: 2, Data: []byte("y")}, 0, api.ErrRange},
		{"0", api.Act{Kind: 0, Node: 1, Other: 2, Data: []byte("y")}, 0, api.ErrRange},
		{"-1", api.Act{Kind: -1, Node: 1}, 0, api.ErrRange},
		{"the greatest", api.Act{Kind: math.MaxInt, Node: 1}, 0, api.ErrRange},
		{"the least", api.Act{Kind: math.MinInt, Node: 1}, 0, api.ErrRange},
	} {
		g := led(t, roomy, 1, 2, 3)
		do(t, g, propose(1, "x"))
		spread(t, g, 1)
		if n, e := g.Do(c.act); n != c.n || e != c.e {
			t.Errorf("%s: %d, %d; want %d, %d", c.name, n, e, c.n, c.e)
		}
	}
}

// P11.3: ErrNone of a node that is down, or never was.
func TestKindsAtANodeThatIsDown(t *testing.T) {
	g := led(t, roomy, 1, 2, 3)
	do(t, g, propose(1, "x"))
	spread(t, g, 1)
	do(t, g, crash(1))
	for _, node := range []uint64{0, 1, 4, math.MaxUint64} {
		for _, kind := range atNodes {
			if kind == api.ActStart && node == 1 {
				continue
			}
			fails(t, g, api.Act{Kind: kind, Node: node, Other: 5, Data: []byte("y")}, api.ErrNone)
			// Errors of other fields come later.
			fails(t, g, api.Act{Kind: kind, Node: node, Other: 0}, api.ErrNone)
		}
		for _, kind := range []int{math.MinInt, -1, 0, 12, math.MaxInt} {
			fails(t, g, api.Act{Kind: kind, Node: node}, api.ErrRange)
		}
		for _, kind := range []int{api.ActCut, api.ActMend, api.ActTime} {
			do(t, g, api.Act{Kind: kind, Node: node, Other: 4})
		}
	}
	if !slices.Equal(g.Nodes(), []uint64{1, 2, 3}) || g.Up(1) {
		t.Errorf("nodes %v, 1 is up: %v", g.Nodes(), g.Up(1))
	}
	applied(t, g, 1, "x")
	do(t, g, start(1))
}

// P11.3: ActTick is the node's Tick with Draw.
func TestTick(t *testing.T) {
	for draw := range uint64(20) {
		if draw > 17 {
			draw = math.MaxUint64 - draw
		}
		g := made(t, roomy, 1, 2)
		for range 9 {
			do(t, g, api.Act{Kind: api.ActTick, Node: 1, Draw: draw + 1})
		}
		stands(t, g, 1, raft.Follower, 0, 0, 0)
		do(t, g, api.Act{Kind: api.ActTick, Node: 1, Draw: draw})
		stands(t, g, 1, raft.Candidate, 1, 0, 0)
		for range 4 + draw%8 {
			do(t, g, api.Act{Kind: api.ActTick, Node: 1, Draw: draw + 1})
		}
		stands(t, g, 1, raft.Candidate, 1, 0, 0)
		do(t, g, api.Act{Kind: api.ActTick, Node: 1})
		stands(t, g, 1, raft.Candidate, 2, 0, 0)
		stands(t, g, 2, raft.Follower, 0, 0, 0) // nothing was delivered
	}
}

// P11.3: ActDeliver and ActTime count for any Node.
func TestDeliverAndTime(t *testing.T) {
	for _, node := range []uint64{0, 1, 2, 7, math.MaxUint64} {
		g := New([]uint64{1, 2}, roomy, api.Fate{Times: 1, Delay: 1}, api.Fate{Times: 2})
		deliverAt := api.Act{Kind: api.ActDeliver, Node: node, Other: 9, Data: []byte("x")}
		fails(t, g, deliverAt, api.ErrNone)
		for range 10 {
			do(t, g, tick(1))
		}
		fails(t, g, deliverAt, api.ErrNone) // it isn't due yet
		do(t, g, api.Act{Kind: api.ActTime, Node: node})
		do(t, g, deliverAt)
		stands(t, g, 2, raft.Follower, 1, 0, 0)
		do(t, g, deliverAt) // the vote, and its double
		stands(t, g, 1, raft.Leader, 1, 1, 0)
		do(t, g, deliverAt)
		do(t, g, deliverAt)
		stands(t, g, 2, raft.Follower, 1, 1, 0)
		do(t, g, deliverAt)
		stands(t, g, 1, raft.Leader, 1, 1, 1)
		fails(t, g, deliverAt, api.ErrNone)
		for range 3 {
			do(t, g, api.Act{Kind: api.ActTime, Node: node})
		}
		fails(t, g, deliverAt, api.ErrNone)
	}
}

// P11.3: what is delivered to a node that is down is gone.
func TestDeliverToANodeThatIsDown(t *testing.T) {
	g := led(t, roomy, 1, 2)
	do(t, g, propose(1, "x"))
	do(t, g, crash(2))
	if n := g.lines.Waiting(); n != 1 {
		t.Fatalf("%d wait", n)
	}
	do(t, g, deliver)
	fails(t, g, deliver, api.ErrNone)
	do(t, g, start(2))
	fails(t, g, deliver, api.ErrNone)
	stands(t, g, 2, raft.Follower, 1, 0, 0)
	g.lines.Send(api.Msg{Kind: api.AskVote, From: 1, To: 77, Term: 9}) // nor does one to nobody harm
	do(t, g, deliver)
	fails(t, g, deliver, api.ErrNone)
	do(t, g, tick(1))
	settle(t, g)
	do(t, g, tick(1))
	settle(t, g)
	applied(t, g, 2, "x")
}

// P11.3: ActPropose answers the index, or the error.
func TestPropose(t *testing.T) {
	g := led(t, roomy, 1, 2, 3)
	fails(t, g, propose(1, ""), api.ErrRange)
	fails(t, g, api.Act{Kind: api.ActPropose, Node: 1, Data: []byte{}}, api.ErrRange)
	fails(t, g, propose(2, ""), api.ErrRange)
	fails(t, g, propose(2, "x"), api.ErrLeader)
	fails(t, g, propose(1, long(4097)), api.ErrLong)
	fails(t, g, propose(2, long(4097)), api.ErrLong)
	fails(t, g, deliver, api.ErrNone) // none of them sends
	for i, s := range []string{"a", long(4096), "a"} {
		if n := do(t, g, propose(1, s)); n != uint64(i)+2 {
			t.Errorf("index %d, want %d", n, i+2)
		}
		if w := g.lines.Waiting(); w != 2*(i+1) {
			t.Errorf("%d wait", w)
		}
	}
	applied(t, g, 1)
	spread(t, g, 1)
	for _, id := range g.Nodes() {
		applied(t, g, id, "a", long(4096), "a")
	}
}

// P11.3: nodes that are cut off from each other, and mended, there or not.
func TestCutAndMend(t *testing.T) {
	g := made(t, roomy, 1, 2)
	for _, pair := range [][2]uint64{{5, 6}, {1, 7}, {7, 1}, {0, 0}, {1, 1}, {math.MaxUint64, 0}} {
		do(t, g, cut(pair[0], pair[1]))
		do(t, g, mend(pair[0], pair[1]))
		do(t, g, mend(pair[0], pair[1]))
		do(t, g, cut(pair[0], pair[1]))
	}
	do(t, g, cut(2, 1))
	for range 10 {
		do(t, g, tick(1))
	}
	fails(t, g, deliver, api.ErrNone)
	do(t, g, mend(1, 2))
	for range 20 {
		do(t, g, tick(1))
	}
	settle(t, g)
	if id, is := g.Leader(); id != 1 || !is {
		t.Fatalf("%d, %v leads", id, is)
	}
	do(t, g, crash(2)) // also while one of both is down
	do(t, g, cut(1, 2))
	do(t, g, tick(1))
	fails(t, g, deliver, api.ErrNone)
	do(t, g, start(2))
	do(t, g, tick(1))
	fails(t, g, deliver, api.ErrNone)
}

// P11.3: ActAdd of a node that never was: it gets a disk, is up, and agrees.
func TestAdd(t *testing.T) {
	g := led(t, roomy, 1, 2, 3)
	do(t, g, propose(1, "x"))
	if n := do(t, g, add(1, 1<<40)); n != 3 {
		t.Errorf("index %d", n)
	}
	stands(t, g, 1<<40, raft.Follower, 0, 0, 0)
	holds(t, g, 1<<40, rlog.PutSnap(api.Snap{}))
	if !g.Up(1 << 40) {
		t.Error("the new node is down")
	}
	fails(t, g, start(1<<40), api.ErrNone)
	fails(t, g, add(1, 9), api.ErrMember) // another change isn't committed yet
	fails(t, g, remove(1, 2), api.ErrMember)
	fails(t, g, remove(1, 1<<40), api.ErrMember)
	spread(t, g, 1)
	applied(t, g, 1<<40, "x")
	// It counts: with two of four down nothing is committed any more.
	do(t, g, crash(2))
	do(t, g, crash(3))
	do(t, g, propose(1, "y"))
	spread(t, g, 1)
	applied(t, g, 1<<40, "x")
	do(t, g, start(3))
	spread(t, g, 1)
	applied(t, g, 1<<40, "x", "y")
	if n := do(t, g, add(1, 5)); n != 5 {
		t.Errorf("index %d", n)
	}
}

// P11.3: nine are the most.
func TestAddOfATenth(t *testing.T) {
	g := led(t, roomy, 1, 2, 3, 4, 5, 6, 7, 8)
	do(t, g, add(1, 9))
	spread(t, g, 1)
	fails(t, g, add(1, 10), api.ErrRange)
	fails(t, g, add(2, 10), api.ErrRange)
	fails(t, g, add(1, 0), api.ErrRange)
	fails(t, g, add(1, 9), api.ErrMember)
	fails(t, g, remove(1, 10), api.ErrMember)
	do(t, g, remove(1, 9))
	spread(t, g, 1)
	// Eight are members, but nine nodes were: only one of them may come back.
	fails(t, g, add(1, 10), api.ErrRange)
	if len(g.Nodes()) != 9 {
		t.Errorf("nodes %v", g.Nodes())
	}
	do(t, g, add(1, 9))
	spread(t, g, 1)
	do(t, g, propose(1, "x"))
	spread(t, g, 1)
	applied(t, g, 9, "x")
}

// P11.3: ActRemove of members, of others, of the node itself and of 0.
func TestRemove(t *testing.T) {
	g := led(t, roomy, 1, 2, 3)
	fails(t, g, remove(1, 0), api.ErrRange)
	fails(t, g, remove(2, 0), api.ErrRange)
	fails(t, g, remove(1, 4), api.ErrMember)
	fails(t, g, remove(2, 3), api.ErrLeader)
	fails(t, g, remove(2, 2), api.ErrLeader)
	fails(t, g, remove(3, 9), api.ErrLeader)
	if n := do(t, g, remove(1, 3)); n != 2 {
		t.Errorf("index %d", n)
	}
	fails(t, g, remove(1, 2), api.ErrMember) // that isn't committed yet
	spread(t, g, 1)
	fails(t, g, remove(1, 3), api.ErrMember)
	if !g.Up(3) || !slices.Equal(g.Nodes(), []uint64{1, 2, 3}) {
		t.Errorf("a node that is no member any more: up %v, nodes %v", g.Up(3), g.Nodes())
	}
	do(t, g, propose(1, "x"))
	spread(t, g, 1)
	applied(t, g, 2, "x")
	applied(t, g, 3)
	do(t, g, add(1, 3)) // it may come back
	spread(t, g, 1)
	applied(t, g, 3, "x")
	do(t, g, remove(1, 1)) // itself
	stands(t, g, 1, raft.Leader, 1, 1, 4)
	settle(t, g)
	stands(t, g, 1, raft.Follower, 1, 0, 5)
	fails(t, g, propose(1, "y"), api.ErrLeader)
	g.Run(40, 0)
	if id, is := g.Leader(); !is || id == 1 {
		t.Errorf("%d, %v leads", id, is)
	}
	applied(t, g, 1, "x")
}

// P11.3: the last member can't be removed; the last but one can.
func TestRemoveOfTheLast(t *testing.T) {
	g := led(t, roomy, 1)
	fails(t, g, remove(1, 1), api.ErrRange)
	g = led(t, roomy, 1, 2)
	if n := do(t, g, remove(1, 2)); n != 2 {
		t.Errorf("index %d", n)
	}
	fails(t, g, remove(1, 1), api.ErrRange)
	do(t, g, propose(1, "x"))
	applied(t, g, 1, "x")
	settle(t, g)
	applied(t, g, 2)
}
