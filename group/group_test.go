package group

import (
	"bytes"
	"fmt"
	"math"
	"slices"
	"strings"
	"testing"

	"plenum/api"
	"plenum/frame"
	"plenum/raft"
	"plenum/rlog"
	"plenum/wal"
)

// roomy is the size of a disk that never runs full.
const roomy = 1 << 24

// do lets something happen that must be OK, and answers its number.
func do(t *testing.T, g *Group, a api.Act) uint64 {
	t.Helper()
	n, e := g.Do(a)
	if e != api.OK {
		t.Fatalf("%+v: %d", a, e)
	}
	return n
}

// fails lets something happen that must be that error.
func fails(t *testing.T, g *Group, a api.Act, want api.Errno) {
	t.Helper()
	if n, e := g.Do(a); e != want || n != 0 {
		t.Fatalf("%+v: %d, %d; want 0, %d", a, n, e, want)
	}
}

func tick(node uint64) api.Act  { return api.Act{Kind: api.ActTick, Node: node} }
func crash(node uint64) api.Act { return api.Act{Kind: api.ActCrash, Node: node} }
func start(node uint64) api.Act { return api.Act{Kind: api.ActStart, Node: node} }

func compact(node uint64) api.Act { return api.Act{Kind: api.ActCompact, Node: node} }

func propose(node uint64, s string) api.Act {
	return api.Act{Kind: api.ActPropose, Node: node, Data: []byte(s)}
}

func add(node, other uint64) api.Act {
	return api.Act{Kind: api.ActAdd, Node: node, Other: other}
}

func remove(node, other uint64) api.Act {
	return api.Act{Kind: api.ActRemove, Node: node, Other: other}
}

func cut(a, b uint64) api.Act  { return api.Act{Kind: api.ActCut, Node: a, Other: b} }
func mend(a, b uint64) api.Act { return api.Act{Kind: api.ActMend, Node: a, Other: b} }

var deliver = api.Act{Kind: api.ActDeliver}

// made answers a group that must be one.
func made(t *testing.T, size int, members ...uint64) *Group {
	t.Helper()
	g := New(members, size)
	if g == nil {
		t.Fatalf("New(%v, %d): nil", members, size)
	}
	return g
}

// led answers a group in which node 1 leads in term 1, and all know it: it alone
// was let tick ahead of its election.
func led(t *testing.T, size int, members ...uint64) *Group {
	t.Helper()
	g := made(t, size, members...)
	for range 10 {
		do(t, g, tick(1))
	}
	settle(t, g)
	do(t, g, tick(1))
	settle(t, g)
	if id, is := g.Leader(); id != 1 || !is {
		t.Fatalf("%d, %v leads", id, is)
	}
	return g
}

// settle delivers all that is due.
func settle(t *testing.T, g *Group) {
	t.Helper()
	for {
		if _, e := g.Do(deliver); e != api.OK {
			return
		}
	}
}

// spread lets a leader tell the others all, what is committed too.
func spread(t *testing.T, g *Group, leader uint64) {
	t.Helper()
	for range 3 {
		settle(t, g)
		do(t, g, tick(leader))
	}
	settle(t, g)
}

// applied holds what a node applied to these texts.
func applied(t *testing.T, g *Group, node uint64, want ...string) {
	t.Helper()
	var got []string
	for _, b := range g.Applied(node) {
		got = append(got, string(b))
	}
	if !slices.Equal(got, want) {
		t.Fatalf("node %d applied %q, want %q", node, got, want)
	}
}

// stands holds a node's State to what it should be.
func stands(t *testing.T, g *Group, node uint64, role int, term, leader, commit uint64) {
	t.Helper()
	r, te, l, c := g.State(node)
	if r != role || te != term || l != leader || c != commit {
		t.Fatalf("node %d is %d, %d, %d, %d; want %d, %d, %d, %d", node, r, te, l, c, role, term, leader, commit)
	}
}

// holds holds a node's disk to these records, all of it synced.
func holds(t *testing.T, g *Group, node uint64, want ...[]byte) {
	t.Helper()
	d := g.nodes[node].disk
	var b []byte
	for _, r := range want {
		b = append(b, frame.Put(r)...)
	}
	if !bytes.Equal(d.Bytes(), b) || d.Synced() != len(b) {
		t.Fatalf("node %d's disk has %x, of which %d are synced; want %x", node, d.Bytes(), d.Synced(), b)
	}
}

func firstSnap(members ...uint64) []byte { return rlog.PutSnap(api.Snap{Members: members}) }

// least is how many bytes a disk must have for the snapshot with these members.
func least(members ...uint64) int { return len(frame.Put(firstSnap(members...))) }

// P11.1: a node of each number, up, with the snapshot on its disk.
func TestNew(t *testing.T) {
	nine := []uint64{1, 2, 3, 4, 5, 6, 7, 8, 9}
	for _, c := range []struct {
		name    string
		members []uint64
		sorted  []uint64
	}{
		{"one", []uint64{1}, []uint64{1}},
		{"the greatest number", []uint64{math.MaxUint64}, []uint64{math.MaxUint64}},
		{"not rising", []uint64{3, 1, 2}, []uint64{1, 2, 3}},
		{"far apart", []uint64{1 << 63, 7, 300, 128}, []uint64{7, 128, 300, 1 << 63}},
		{"nine", nine, nine},
		{"nine, falling", []uint64{9, 8, 7, 6, 5, 4, 3, 2, 1}, nine},
	} {
		given := slices.Clone(c.members)
		g := New(c.members, roomy)
		if g == nil {
			t.Fatalf("%s: nil", c.name)
		}
		if !slices.Equal(g.Nodes(), c.sorted) {
			t.Errorf("%s: nodes %v", c.name, g.Nodes())
		}
		for _, id := range c.sorted {
			if !g.Up(id) || len(g.Applied(id)) > 0 {
				t.Errorf("%s: node %d: up %v, applied %q", c.name, id, g.Up(id), g.Applied(id))
			}
			stands(t, g, id, raft.Follower, 0, 0, 0)
			holds(t, g, id, firstSnap(c.sorted...))
			if l, at := g.nodes[id].node.Log().Members(); !slices.Equal(l, c.sorted) || at != 0 {
				t.Errorf("%s: node %d's members %v, %d", c.name, id, l, at)
			}
		}
		if id, is := g.Leader(); id != 0 || is {
			t.Errorf("%s: %d leads", c.name, id)
		}
		fails(t, g, deliver, api.ErrNone)
		if !slices.Equal(c.members, given) {
			t.Errorf("%s: the list was changed: %v", c.name, c.members)
		}
	}
}

// P11.1: nil, unless there are 1 to 9, above 0, no two alike.
func TestNewOfMembersThatMayNotBe(t *testing.T) {
	for _, l := range [][]uint64{
		nil,
		{},
		{0},
		{0, 1},
		{1, 2, 0},
		{1, 1},
		{1, 2, 1},
		{2, 1, 3, 2},
		{1, 2, 3, 4, 5, 6, 7, 8, 9, 10},
		{1, 2, 3, 4, 5, 6, 7, 8, 9, 9},
		{1, 1, 1, 1, 1, 1, 1, 1, 1, 1, 1},
		{math.MaxUint64, math.MaxUint64},
	} {
		if g := New(l, roomy); g != nil {
			t.Errorf("New(%v): %v", l, g.Nodes())
		}
	}
	if g := New([]uint64{0}[:0], roomy); g != nil {
		t.Errorf("a list whose member lies behind its length: %v", g.Nodes())
	}
}

// P11.1: nil, if the disks have no room for the snapshot.
func TestNewWithSmallDisks(t *testing.T) {
	for _, l := range [][]uint64{{1}, {2, 1}, {127}, {128}, {1, 2, 3, 4, 5, 6, 7, 8, 9}, {math.MaxUint64, 1}} {
		enough := least(l...)
		for _, size := range []int{math.MinInt, -1, 0, 1, 14, enough - 1} {
			if New(l, size) != nil {
				t.Errorf("New(%v, %d): the snapshot needs %d", l, size, enough)
			}
		}
		for _, size := range []int{enough, enough + 1, math.MaxInt} {
			g := New(l, size)
			if g == nil || !slices.Equal(g.Nodes(), slices.Sorted(slices.Values(l))) {
				t.Errorf("New(%v, %d): %v", l, size, g)
			}
		}
	}
}

// P11.1: the mesh has the fates.
func TestNewWithFates(t *testing.T) {
	lost, twice, later := api.Fate{}, api.Fate{Times: 2}, api.Fate{Times: 1, Delay: 2}
	g := New([]uint64{1, 2, 3, 4}, roomy, lost, twice, later)
	for range 10 {
		do(t, g, tick(1))
	}
	// AskVote to 2 is lost, to 3 doubled, to 4 held back.
	do(t, g, deliver)
	stands(t, g, 3, raft.Follower, 1, 0, 0)
	do(t, g, deliver)
	stands(t, g, 2, raft.Follower, 0, 0, 0)
	do(t, g, deliver) // TellVote of 3, and its double
	do(t, g, deliver)
	fails(t, g, deliver, api.ErrNone)
	do(t, g, api.Act{Kind: api.ActTime})
	fails(t, g, deliver, api.ErrNone)
	do(t, g, api.Act{Kind: api.ActTime})
	do(t, g, deliver)
	stands(t, g, 4, raft.Follower, 1, 0, 0)
	stands(t, g, 1, raft.Candidate, 1, 0, 0)
	do(t, g, deliver)
	stands(t, g, 1, raft.Leader, 1, 1, 0)
}

// P11.1: all numbers that ever had a disk, rising, whatever became of them.
func TestNodes(t *testing.T) {
	g := led(t, roomy, 5, 1, 300)
	is := func(what string, want ...uint64) {
		t.Helper()
		if !slices.Equal(g.Nodes(), want) {
			t.Fatalf("%s: %v, want %v", what, g.Nodes(), want)
		}
	}
	is("New", 1, 5, 300)
	do(t, g, add(1, 7))
	is("ActAdd", 1, 5, 7, 300)
	spread(t, g, 1)
	do(t, g, remove(1, 5))
	is("ActRemove", 1, 5, 7, 300)
	spread(t, g, 1)
	do(t, g, crash(300))
	is("ActCrash", 1, 5, 7, 300)
	fails(t, g, add(7, 8), api.ErrLeader)
	is("ActAdd that was refused", 1, 5, 7, 8, 300)
	fails(t, g, remove(1, 9), api.ErrMember)
	is("ActRemove of one that never was", 1, 5, 7, 8, 300)
	do(t, g, cut(50, 60))
	is("ActCut of nodes that never were", 1, 5, 7, 8, 300)
	do(t, g, add(1, 5))
	is("ActAdd of one that was", 1, 5, 7, 8, 300)
}

// The example of the chapter: a group of one.
func TestExample(t *testing.T) {
	for _, id := range []uint64{1, 42, math.MaxUint64} {
		g := made(t, roomy, id)
		g.Run(9, 0)
		if _, is := g.Leader(); is {
			t.Fatalf("%d leads behind nine rounds", id)
		}
		g = made(t, roomy, id)
		g.Run(12, 0)
		if leader, is := g.Leader(); leader != id || !is {
			t.Fatalf("%d, %v leads; want %d", leader, is, id)
		}
		if n := do(t, g, propose(id, "x")); n != 2 {
			t.Fatalf("index %d", n)
		}
		applied(t, g, id, "x")
		do(t, g, propose(id, "y"))
		applied(t, g, id, "x", "y")
	}
}

// P1: a Group that nobody made has no nodes.
func TestGroupThatNobodyMade(t *testing.T) {
	for name, g := range map[string]*Group{"nil": nil, "zero": {}} {
		for kind := -1; kind <= 13; kind++ {
			for _, node := range []uint64{0, 1, math.MaxUint64} {
				want := api.ErrNone
				switch kind {
				case api.ActCut, api.ActMend, api.ActTime:
					want = api.OK
				case -1, 0, 12, 13:
					want = api.ErrRange
				}
				a := api.Act{Kind: kind, Node: node, Other: 2, Draw: 3, Keep: 4, Data: []byte("x")}
				if n, e := g.Do(a); n != 0 || e != want {
					t.Errorf("%s: %+v: %d, %d; want 0, %d", name, a, n, e, want)
				}
				if g.Up(node) || len(g.Applied(node)) > 0 {
					t.Errorf("%s: node %d: up %v, applied %q", name, node, g.Up(node), g.Applied(node))
				}
				stands(t, g, node, 0, 0, 0, 0)
			}
		}
		g.Run(3, 4)
		if id, is := g.Leader(); id != 0 || is || len(g.Nodes()) > 0 {
			t.Errorf("%s: %d, %v leads; nodes %v", name, id, is, g.Nodes())
		}
	}
}

// P11.2 to P11.4: of a node that never was, and of one that is down.
func TestNodesThatAreNotUp(t *testing.T) {
	g := led(t, roomy, 1, 2)
	do(t, g, propose(1, "x"))
	spread(t, g, 1)
	for _, id := range []uint64{0, 3, math.MaxUint64} {
		if g.Up(id) || len(g.Applied(id)) > 0 {
			t.Errorf("node %d never was: %v, %q", id, g.Up(id), g.Applied(id))
		}
		stands(t, g, id, 0, 0, 0, 0)
	}
	stands(t, g, 1, raft.Leader, 1, 1, 2)
	stands(t, g, 2, raft.Follower, 1, 1, 2)
	do(t, g, crash(1))
	if g.Up(1) || !g.Up(2) {
		t.Errorf("up: %v, %v", g.Up(1), g.Up(2))
	}
	stands(t, g, 1, 0, 0, 0, 0)
	applied(t, g, 1, "x")
	if id, is := g.Leader(); id != 0 || is {
		t.Errorf("%d leads, and is down", id)
	}
}

// records answers what a node's disk holds.
func records(t *testing.T, g *Group, node uint64) [][]byte {
	t.Helper()
	l, size := wal.Records(g.nodes[node].disk.Bytes())
	if size != len(g.nodes[node].disk.Bytes()) {
		t.Fatalf("node %d's disk ends with what is no record", node)
	}
	return l
}

func entry(index, term uint64, kind int, data string) api.Entry {
	return api.Entry{Index: index, Term: term, Kind: kind, Data: []byte(data)}
}

// P11.2: what is remembered, ahead of what is sent.
func TestTurnRemembers(t *testing.T) {
	g := made(t, roomy, 1, 2, 3)
	first := firstSnap(1, 2, 3)
	for range 9 {
		do(t, g, tick(1))
	}
	holds(t, g, 1, first) // nothing is new: no record
	do(t, g, tick(1))
	vote := rlog.PutHard(api.Hard{Term: 1, Vote: 1})
	holds(t, g, 1, first, vote)
	if n := g.lines.Waiting(); n != 2 {
		t.Fatalf("%d wait", n)
	}
	do(t, g, deliver)
	holds(t, g, 2, first, vote)
	holds(t, g, 3, first)
	do(t, g, deliver)
	do(t, g, deliver) // it leads
	empty := rlog.PutEntry(entry(1, 1, api.Normal, ""))
	holds(t, g, 1, first, vote, empty)
	do(t, g, propose(1, "x"))
	x := rlog.PutEntry(entry(2, 1, api.Normal, "x"))
	holds(t, g, 1, first, vote, empty, x)
	settle(t, g)
	for _, id := range g.Nodes() {
		holds(t, g, id, first, vote, empty, x)
	}
	applied(t, g, 1, "x")
	applied(t, g, 2)
	do(t, g, tick(1))
	settle(t, g)
	applied(t, g, 2, "x")
	do(t, g, add(1, 9))
	config := rlog.PutEntry(api.Entry{Index: 3, Term: 1, Kind: api.Config, Data: rlog.PutMembers([]uint64{1, 2, 3, 9})})
	holds(t, g, 1, first, vote, empty, x, config)
	holds(t, g, 9, firstSnap())
	spread(t, g, 1)
	holds(t, g, 9, firstSnap(), rlog.PutHard(api.Hard{Term: 1}), empty, x, config)
}

// P11.2: of what is committed the data of each Normal entry that has some.
func TestWhatIsApplied(t *testing.T) {
	g := made(t, roomy, 1, 2)
	g.lines.Send(api.Msg{Kind: api.AskAppend, From: 2, To: 1, Term: 3, Commit: 7, Entries: []api.Entry{
		entry(1, 1, api.Normal, "a"), entry(2, 1, api.Normal, ""), entry(3, 2, api.Config, "b"), entry(4, 2, 2, "c"),
		entry(5, 2, -1, "d"), entry(6, 3, api.Normal, "a"), entry(7, 3, api.Normal, "e"), entry(8, 3, api.Normal, "f"),
	}})
	do(t, g, deliver)
	stands(t, g, 1, raft.Follower, 3, 2, 7)
	applied(t, g, 1, "a", "a", "e")
	do(t, g, compact(1))
	if s := g.nodes[1].node.Log().Snap(); s.Index != 7 || s.Term != 3 || !bytes.Equal(s.Data, PutList(g.Applied(1))) {
		t.Errorf("compacted to %+v", s)
	}
	g.lines.Send(api.Msg{Kind: api.AskAppend, From: 2, To: 1, Term: 3, Index: 8, LogTerm: 3, Commit: 9, Entries: []api.Entry{entry(9, 3, api.Normal, "g")}})
	settle(t, g)
	applied(t, g, 1, "a", "a", "e", "f", "g")
}

// P11.2: a snapshot that came takes the place of all that was applied, ahead of
// what is committed behind it.
func TestSnapshotThatCame(t *testing.T) {
	for _, c := range []struct {
		name string
		data []byte
		want []string
	}{
		{"a list", PutList([][]byte{[]byte("p"), nil, []byte("q")}), []string{"p", "", "q"}},
		{"no texts", PutList(nil), nil},
		{"no data", nil, nil},
		{"no list", []byte("no list"), nil},
		{"a list with a byte behind it", append(PutList([][]byte{[]byte("p")}), 0), nil},
		{"too many texts", PutList(make([][]byte, 2001)), nil},
	} {
		g := made(t, roomy, 1, 2)
		g.lines.Send(api.Msg{Kind: api.AskAppend, From: 2, To: 1, Term: 3, Commit: 1, Entries: []api.Entry{entry(1, 1, api.Normal, "old"), entry(2, 3, api.Normal, "x")}})
		do(t, g, deliver)
		applied(t, g, 1, "old")
		s := api.Snap{Index: 5, Term: 3, Members: []uint64{1, 2}, Data: c.data}
		g.lines.Send(api.Msg{Kind: api.AskSnap, From: 2, To: 1, Term: 3, Snap: s})
		settle(t, g)
		applied(t, g, 1, c.want...)
		fails(t, g, compact(1), api.ErrRange) // the snapshot is all that was given out
		g.lines.Send(api.Msg{Kind: api.AskAppend, From: 2, To: 1, Term: 3, Index: 5, LogTerm: 3, Commit: 6, Entries: []api.Entry{entry(6, 3, api.Normal, "new")}})
		settle(t, g)
		applied(t, g, 1, append(slices.Clone(c.want), "new")...)
		do(t, g, crash(1))
		do(t, g, start(1))
		applied(t, g, 1, c.want...)
	}
}

func repeat(s string, n int) []string { return slices.Repeat([]string{s}, n) }

// numbered answers so many texts that differ.
func numbered(n int) []string {
	var l []string
	for i := range n {
		l = append(l, fmt.Sprint("text ", i))
	}
	return l
}

func long(n int) string { return strings.Repeat("z", n) }
