package group

import (
	"math"
	"slices"
	"testing"

	"plenum/api"
	"plenum/raft"
	"plenum/rlog"
)

// refusal is a group with a node whose Change is refused.
type refusal struct {
	name string
	g    *Group
	at   uint64
	e    api.Errno
}

// standing answers a group whose node 1 stands for election, and of which
// nothing was delivered yet.
func standing(t *testing.T, members ...uint64) *Group {
	t.Helper()
	g := made(t, roomy, members...)
	for range 10 {
		do(t, g, tick(1))
	}
	return g
}

// elected answers a group of 1 and 2 whose node 1 leads, and has committed
// nothing yet.
func elected(t *testing.T) *Group {
	t.Helper()
	g := standing(t, 1, 2)
	do(t, g, deliver)
	do(t, g, deliver)
	stands(t, g, 1, raft.Leader, 1, 1, 0)
	return g
}

// electedAgain answers a group of 1 and 2 whose node 1 leads once more, and has
// committed nothing in its new term, but something in the one ahead.
func electedAgain(t *testing.T) *Group {
	t.Helper()
	g := led(t, roomy, 1, 2)
	do(t, g, crash(1))
	do(t, g, start(1))
	for range 10 {
		do(t, g, tick(1))
	}
	do(t, g, deliver)
	do(t, g, deliver)
	stands(t, g, 1, raft.Leader, 2, 1, 0)
	return g
}

// changing answers a group whose node 1 leads, and in which that change isn't
// committed yet.
func changing(t *testing.T, a api.Act) *Group {
	t.Helper()
	g := led(t, roomy, 1, 2, 3)
	do(t, g, a)
	return g
}

// refusals answers groups of which node 7 never was, each with another reason
// for which a Change is refused.
func refusals(t *testing.T) []refusal {
	t.Helper()
	return []refusal{
		{"a node alone that doesn't lead yet", made(t, roomy, 1), 1, api.ErrLeader},
		{"a node that knows no leader", made(t, roomy, 1, 2, 3), 3, api.ErrLeader},
		{"a follower", led(t, roomy, 1, 2, 3), 2, api.ErrLeader},
		{"a candidate", standing(t, 1, 2), 1, api.ErrLeader},
		{"a leader that committed nothing", elected(t), 1, api.ErrMember},
		{"a leader that committed nothing in its term", electedAgain(t), 1, api.ErrMember},
		{"a leader whose ActAdd isn't committed", changing(t, add(1, 8)), 1, api.ErrMember},
		{"a leader whose ActRemove isn't committed", changing(t, remove(1, 3)), 1, api.ErrMember},
	}
}

func rising(l []uint64) []uint64 { return slices.Sorted(slices.Values(l)) }

// isNew holds a node to one that was just made beside a group.
func isNew(t *testing.T, g *Group, id uint64) {
	t.Helper()
	if !slices.Contains(g.Nodes(), id) || !g.Up(id) {
		t.Fatalf("nodes %v, %d is up: %v", g.Nodes(), id, g.Up(id))
	}
	applied(t, g, id)
	stands(t, g, id, raft.Follower, 0, 0, 0)
	holds(t, g, id, rlog.PutSnap(api.Snap{}))
	fails(t, g, start(id), api.ErrNone)
}

// areMembers holds a node's members to those.
func areMembers(t *testing.T, g *Group, node uint64, want []uint64) {
	t.Helper()
	if l, _ := g.nodes[node].node.Log().Members(); !slices.Equal(l, want) {
		t.Fatalf("members %v, want %v", l, want)
	}
}

// P11.3: ActAdd of a node that never was, whose Change is refused: its error,
// and nothing but that the node is there, once.
func TestAddThatIsRefused(t *testing.T) {
	for _, id := range []uint64{7, 1 << 40, math.MaxUint64} {
		for _, c := range refusals(t) {
			t.Log(c.name)
			nodes, waiting := rising(append(c.g.Nodes(), id)), c.g.lines.Waiting()
			members, _ := c.g.nodes[c.at].node.Log().Members()
			before := records(t, c.g, c.at)
			for range 2 {
				fails(t, c.g, add(c.at, id), c.e)
				isNew(t, c.g, id)
				if !slices.Equal(c.g.Nodes(), nodes) || c.g.lines.Waiting() != waiting {
					t.Fatalf("nodes %v, %d wait", c.g.Nodes(), c.g.lines.Waiting())
				}
				areMembers(t, c.g, c.at, members)
				holds(t, c.g, c.at, before...)
			}
		}
	}
}

// P11.3: a node that is there by an ActAdd that was refused can still be made a
// member, whatever became of it till then.
func TestAddLaterOn(t *testing.T) {
	for name, meanwhile := range map[string]func(g *Group){
		"nothing":             func(*Group) {},
		"ticks":               func(g *Group) { g.Run(30, 0) },
		"a crash and a start": func(g *Group) { do(t, g, crash(7)); do(t, g, start(7)) },
	} {
		for _, c := range refusals(t) {
			t.Log(c.name, "; meanwhile", name)
			fails(t, c.g, add(c.at, 7), c.e)
			meanwhile(c.g)
			isNew(t, c.g, 7)
			leader := ledInTheEnd(t, c.g)
			do(t, c.g, propose(leader, "x"))
			settle(t, c.g)
			applied(t, c.g, 7)
			members, _ := c.g.nodes[leader].node.Log().Members()
			do(t, c.g, add(leader, 7))
			spread(t, c.g, leader)
			applied(t, c.g, 7, "x")
			members = rising(append(members, 7))
			for _, m := range members {
				areMembers(t, c.g, m, members)
			}
		}
	}
}

// ledInTheEnd lets a group go on till somebody leads, answers who, and lets all
// that it has be committed. (A node that was removed and doesn't know it may
// stand, and let a leader fall, between two rounds.)
func ledInTheEnd(t *testing.T, g *Group) uint64 {
	t.Helper()
	for range 100 {
		g.Run(1, 0)
		if id, is := g.Leader(); is {
			spread(t, g, id)
			return id
		}
	}
	t.Fatal("nobody leads")
	return 0
}

// P11.3: a node that was made a member behind a refusal counts as one.
func TestAddLaterOnCounts(t *testing.T) {
	g := made(t, roomy, 1)
	fails(t, g, add(1, 2), api.ErrLeader)
	lead(t, g, 1)
	do(t, g, propose(1, "a"))
	applied(t, g, 1, "a") // 2 is there, but isn't needed yet
	do(t, g, add(1, 2))
	do(t, g, propose(1, "b"))
	applied(t, g, 1, "a")
	spread(t, g, 1)
	applied(t, g, 1, "a", "b")
	applied(t, g, 2, "a", "b")
	do(t, g, crash(1))
	do(t, g, start(1))
	lead(t, g, 2)
	applied(t, g, 1, "a", "b")
}

// P11.3: a node that is there by an ActAdd that was refused stands for nothing,
// and sends nothing, but is asked like another.
func TestNodeThatIsNoMemberYet(t *testing.T) {
	g := made(t, roomy, 1, 2)
	fails(t, g, add(2, 7), api.ErrLeader)
	for range 50 {
		do(t, g, tick(7))
	}
	isNew(t, g, 7)
	fails(t, g, deliver, api.ErrNone)
	fails(t, g, propose(7, "x"), api.ErrLeader)
	fails(t, g, compact(7), api.ErrRange)
	fails(t, g, add(7, 7), api.ErrLeader)
	fails(t, g, remove(7, 7), api.ErrRange) // it would be nobody's group
	fails(t, g, add(7, 8), api.ErrLeader)
	isNew(t, g, 7)
	isNew(t, g, 8)
	do(t, g, cut(7, 1))
	do(t, g, crash(7))
	g.Run(40, 0)
	applied(t, g, 7)
	stands(t, g, 8, raft.Follower, 0, 0, 0)
}

// P11.3: a node that was is neither made anew nor started by an ActAdd, refused
// or not.
func TestAddOfANodeThatWas(t *testing.T) {
	g := led(t, roomy, 1, 2, 3)
	do(t, g, propose(1, "x"))
	spread(t, g, 1)
	do(t, g, remove(1, 3))
	spread(t, g, 1)
	before := records(t, g, 3)
	fails(t, g, add(2, 3), api.ErrLeader)
	holds(t, g, 3, before...)
	applied(t, g, 3, "x")
	fails(t, g, add(2, 7), api.ErrLeader)
	for _, id := range []uint64{3, 7} {
		before = records(t, g, id)
		do(t, g, crash(id))
		fails(t, g, add(2, id), api.ErrLeader)
		if g.Up(id) {
			t.Errorf("node %d is up", id)
		}
		holds(t, g, id, before...)
		do(t, g, add(1, id))
		spread(t, g, 1)
		if g.Up(id) {
			t.Errorf("node %d is up", id)
		}
		do(t, g, start(id))
		spread(t, g, 1)
		applied(t, g, id, "x")
	}
}

// P11.3: nodes that are there by an ActAdd that was refused are among the nine.
func TestAddThatIsRefusedOfATenth(t *testing.T) {
	g := led(t, roomy, 1, 2, 3)
	for id := uint64(4); id <= 9; id++ {
		fails(t, g, add(2, id), api.ErrLeader)
		isNew(t, g, id)
	}
	nine := []uint64{1, 2, 3, 4, 5, 6, 7, 8, 9}
	for _, at := range []uint64{1, 2, 9} {
		fails(t, g, add(at, 10), api.ErrRange)
		fails(t, g, add(at, math.MaxUint64), api.ErrRange)
		fails(t, g, add(at, 0), api.ErrRange)
		if !slices.Equal(g.Nodes(), nine) || g.Up(10) {
			t.Fatalf("nodes %v, 10 is up: %v", g.Nodes(), g.Up(10))
		}
	}
	fails(t, g, add(2, 9), api.ErrLeader)
	for id := uint64(4); id <= 9; id++ {
		do(t, g, add(1, id))
		spread(t, g, 1)
	}
	areMembers(t, g, 9, nine)
	do(t, g, propose(1, "x"))
	spread(t, g, 1)
	for _, id := range nine {
		applied(t, g, id, "x")
	}
}

// P11.3: where ActAdd may not be at all, and of ActRemove, no node is made.
func TestNoNodeIsMade(t *testing.T) {
	g := led(t, roomy, 1, 2, 3)
	do(t, g, crash(3))
	fails(t, g, add(1, 0), api.ErrRange)
	fails(t, g, add(2, 0), api.ErrRange)
	fails(t, g, add(3, 7), api.ErrNone)
	fails(t, g, add(7, 7), api.ErrNone)
	fails(t, g, add(0, 7), api.ErrNone)
	fails(t, g, remove(1, 7), api.ErrMember)
	fails(t, g, remove(2, 7), api.ErrLeader)
	fails(t, g, add(1, 1), api.ErrMember)
	fails(t, g, add(1, 2), api.ErrMember)
	fails(t, g, add(2, 2), api.ErrLeader)
	if !slices.Equal(g.Nodes(), []uint64{1, 2, 3}) {
		t.Errorf("nodes %v", g.Nodes())
	}
	fails(t, g, deliver, api.ErrNone)
}

// P11.3: a disk that has just room for a group's first snapshot has some for the
// empty one.
func TestAddOnTheLeastDisk(t *testing.T) {
	g := made(t, least(1), 1)
	fails(t, g, add(1, math.MaxUint64), api.ErrLeader)
	isNew(t, g, math.MaxUint64)
}
