package group

import (
	"math"
	"slices"
	"testing"

	"plenum/api"
	"plenum/raft"
)

// P11.4: of two who lead that one with the greatest term, if it is up.
func TestLeader(t *testing.T) {
	g := made(t, roomy, 1, 2, 3)
	isLed := func(what string, want uint64) {
		t.Helper()
		if id, is := g.Leader(); id != want || is != (want > 0) {
			t.Fatalf("%s: %d, %v; want %d", what, id, is, want)
		}
	}
	isLed("nobody", 0)
	for range 10 {
		do(t, g, tick(3))
	}
	isLed("a candidate", 0)
	settle(t, g)
	isLed("one", 3)
	do(t, g, cut(3, 1))
	do(t, g, cut(3, 2))
	lead(t, g, 1)
	stands(t, g, 3, raft.Leader, 1, 3, 1)
	stands(t, g, 1, raft.Leader, 2, 1, 2)
	isLed("two", 1)
	do(t, g, crash(1))
	isLed("the one of the greater term is down", 3)
	do(t, g, start(1))
	isLed("it is up again, and follows", 3)
	do(t, g, crash(3))
	isLed("both are down, or follow", 0)

	// The lesser term at the lesser number, too.
	g = led(t, roomy, 1, 2, 3)
	do(t, g, cut(1, 2))
	do(t, g, cut(1, 3))
	for range 30 {
		do(t, g, tick(3))
		settle(t, g)
	}
	stands(t, g, 1, raft.Leader, 1, 1, 1)
	isLed("two", 3)
}

// byHand does what a Run of so many rounds is said to do, act by act.
func byHand(g *Group, rounds int, draw uint64) {
	for round := range rounds {
		for _, id := range g.Nodes() {
			if g.Up(id) {
				g.Do(api.Act{Kind: api.ActTick, Node: id, Draw: draw + id + uint64(round)})
			}
		}
		for {
			if _, e := g.Do(deliver); e == api.ErrNone {
				break
			}
		}
		g.Do(api.Act{Kind: api.ActTime})
	}
}

// termOf answers the term of a node that stands again and again, since the other
// member is down.
func termOf(run func(g *Group)) uint64 {
	g := New([]uint64{1, 2}, roomy)
	g.Do(crash(2))
	run(g)
	_, term, _, _ := g.State(1)
	return term
}

// P11.4: so many rounds, at most 200; none, if it is below 1.
func TestRunsRounds(t *testing.T) {
	told := 0
	for draw := range uint64(60) {
		for _, c := range []struct{ rounds, are int }{
			{math.MinInt, 0}, {-1, 0}, {0, 0}, {1, 1}, {9, 9}, {10, 10}, {11, 11}, {150, 150}, {199, 199}, {200, 200}, {201, 200}, {250, 200}, {math.MaxInt, 200},
		} {
			got := termOf(func(g *Group) { g.Run(c.rounds, draw) })
			if want := termOf(func(g *Group) { byHand(g, c.are, draw) }); got != want {
				t.Fatalf("Run(%d, %d): term %d, want %d", c.rounds, draw, got, want)
			}
		}
		// Some of the draws tell rounds 199, 200 and 201 apart.
		at := func(rounds int) uint64 { return termOf(func(g *Group) { byHand(g, rounds, draw) }) }
		if at(200) < at(201) || at(199) < at(200) {
			told++
		}
	}
	if told < 5 {
		t.Errorf("only %d draws tell the rounds apart", told)
	}
	if termOf(func(g *Group) { g.Run(9, 0) }) != 0 || termOf(func(g *Group) { g.Run(10, 0) }) != 1 {
		t.Error("the tenth tick isn't in the tenth round")
	}
}

// P11.4: each tick's draw is draw, the node's number and the round together.
func TestRunDraws(t *testing.T) {
	for draw := range uint64(17) {
		for _, id := range []uint64{1, 5, math.MaxUint64} {
			base := draw
			if draw > 8 {
				base = math.MaxUint64 - draw
			}
			g := made(t, roomy, id, 7)
			do(t, g, crash(7))
			// In the tenth round, number 9, it stands; so many rounds later again.
			later := 5 + int((base%8+id%8+9%8)%8)
			g.Run(9+later, base)
			stands(t, g, id, raft.Candidate, 1, 0, 0)
			g = made(t, roomy, id, 7)
			do(t, g, crash(7))
			g.Run(10+later, base)
			stands(t, g, id, raft.Candidate, 2, 0, 0)
		}
	}
}

// P11.4: a round delivers all that is due, and what is sent meanwhile; then time
// passes.
func TestRoundDelivers(t *testing.T) {
	g := led(t, roomy, 1, 2, 3)
	for _, s := range numbered(40) {
		do(t, g, propose(1, s))
	}
	g.Run(1, 0)
	applied(t, g, 1, numbered(40)...)
	fails(t, g, deliver, api.ErrNone)
	g.Run(1, 0)
	for _, id := range g.Nodes() {
		applied(t, g, id, numbered(40)...)
	}

	g = New([]uint64{1, 2}, roomy, api.Fate{Times: 1, Delay: 2})
	g.Run(10, 0) // node 1's AskVote is held back; node 2 stands too, is refused
	if n := g.lines.Waiting(); n != 1 {
		t.Fatalf("%d wait", n)
	}
	fails(t, g, deliver, api.ErrNone) // one tick of two
	do(t, g, api.Act{Kind: api.ActTime})
	do(t, g, deliver)
}

// P11.4: nodes that are down, and that are told to fall, don't stop a Run.
func TestRunWithNodesThatAreDown(t *testing.T) {
	g := made(t, roomy, 1, 2, 3)
	do(t, g, crash(2))
	g.Run(60, 3)
	id, is := g.Leader()
	if !is || g.Up(2) {
		t.Fatalf("%d, %v leads; 2 is up: %v", id, is, g.Up(2))
	}
	do(t, g, propose(id, "x"))
	g.Run(2, 0)
	applied(t, g, 1, "x")
	applied(t, g, 3, "x")
	applied(t, g, 2)

	room := least(1, 2, 3)
	g = made(t, room, 1, 2, 3)
	g.Run(math.MaxInt, 0) // none of them can vote: all fall
	if g.Up(1) || g.Up(2) || g.Up(3) {
		t.Errorf("up: %v, %v, %v", g.Up(1), g.Up(2), g.Up(3))
	}
	fails(t, g, deliver, api.ErrNone)
	for _, id := range g.Nodes() {
		holds(t, g, id, firstSnap(1, 2, 3))
		do(t, g, start(id))
	}
}

// P11.4: a delivery at which a node falls doesn't end the deliveries of a round.
func TestRunDeliversBehindAFall(t *testing.T) {
	room := len(led(t, roomy, 1, 2, 3).nodes[2].disk.Bytes())
	g := led(t, room+20, 1, 2, 3)
	do(t, g, propose(1, "x"))
	spread(t, g, 1)
	do(t, g, compact(1))
	do(t, g, compact(3)) // node 2 doesn't: it falls at what is next
	do(t, g, propose(1, "y"))
	g.Run(1, 0)
	if g.Up(2) || !g.Up(1) || !g.Up(3) {
		t.Fatalf("up: %v, %v, %v", g.Up(1), g.Up(2), g.Up(3))
	}
	applied(t, g, 1, "x", "y")
}

// P11.4, P11.5: where nothing is lost all nodes apply what is proposed, in every
// size of group, also behind changes of members.
func TestAllApply(t *testing.T) {
	for count := uint64(1); count <= 9; count++ {
		var members []uint64
		for m := range count {
			members = append(members, m+1)
		}
		g := made(t, roomy, members...)
		g.Run(40, count)
		id, is := g.Leader()
		if !is {
			t.Fatalf("%d members: nobody leads", count)
		}
		want := numbered(60)
		for i, s := range want {
			do(t, g, propose(id, s))
			if i == 30 {
				g.Run(2, 0)
				do(t, g, compact(id))
			}
		}
		g.Run(5, 0)
		if count < 9 {
			do(t, g, add(id, 20))
			g.Run(8, 0)
		}
		for _, node := range g.Nodes() {
			applied(t, g, node, want...)
		}
		if count > 1 {
			other := id%count + 1
			do(t, g, remove(id, other))
			do(t, g, propose(id, "last"))
			g.Run(4, 0)
			for _, node := range g.Nodes() {
				if node != other {
					applied(t, g, node, append(slices.Clone(want), "last")...)
				}
			}
		}
	}
}
