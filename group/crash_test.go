package group

import (
	"math"
	"slices"
	"testing"

	"plenum/api"
	"plenum/disk"
	"plenum/frame"
	"plenum/raft"
	"plenum/rlog"
	"plenum/wal"
)

func crashProposing(node uint64, keep int, s string) api.Act {
	return api.Act{Kind: api.ActCrash, Node: node, Keep: keep, Data: []byte(s)}
}

// P11.3: a crash without Data leaves all that was synced, whatever is kept.
func TestCrash(t *testing.T) {
	for _, keep := range []int{math.MinInt, -1, 0, 1, 1000, math.MaxInt} {
		for _, id := range []uint64{1, 2} {
			g := led(t, roomy, 1, 2, 3)
			do(t, g, propose(1, "x"))
			spread(t, g, 1)
			before := records(t, g, id)
			do(t, g, api.Act{Kind: api.ActCrash, Node: id, Keep: keep})
			if g.Up(id) {
				t.Fatalf("node %d is up", id)
			}
			holds(t, g, id, before...)
			fails(t, g, deliver, api.ErrNone)
			fails(t, g, api.Act{Kind: api.ActCrash, Node: id, Keep: keep}, api.ErrNone) // twice
			do(t, g, start(id))
			holds(t, g, id, before...)
			stands(t, g, id, raft.Follower, 1, 0, 0)
			applied(t, g, id) // its snapshot stands for nothing
			fails(t, g, start(id), api.ErrNone)
			g.Run(40, 0)
			applied(t, g, id, "x")
		}
	}
}

// P11.3: a crash of a leader with Data: its record is there as far as it was
// kept, and nothing is sent.
func TestCrashWhileProposing(t *testing.T) {
	record := rlog.PutEntry(entry(3, 1, api.Normal, "lost?"))
	whole := len(frame.Put(record))
	for _, keep := range []int{math.MinInt, -1, 0, 1, 8, whole - 1, whole, whole + 1, math.MaxInt} {
		for _, members := range [][]uint64{{1}, {1, 2, 3}} {
			g := led(t, roomy, members...)
			do(t, g, propose(1, "x"))
			spread(t, g, 1)
			before := records(t, g, 1)
			do(t, g, crashProposing(1, keep, "lost?"))
			fails(t, g, deliver, api.ErrNone)
			applied(t, g, 1, "x")
			if size := g.nodes[1].disk.Synced() - len(frames(before)); size != min(max(keep, 0), whole) {
				t.Fatalf("keep %d: %d bytes are kept", keep, size)
			}
			do(t, g, start(1))
			want := []string{"x"}
			if keep >= whole {
				before = append(before, record)
				want = append(want, "lost?")
			}
			holds(t, g, 1, before...)
			applied(t, g, 1)
			lead(t, g, 1)
			applied(t, g, 1, want...)
		}
	}
}

func frames(l [][]byte) []byte {
	var b []byte
	for _, r := range l {
		b = append(b, frame.Put(r)...)
	}
	return b
}

// lead lets that node alone tick till it leads, and tells the others.
func lead(t *testing.T, g *Group, id uint64) {
	t.Helper()
	for range 30 {
		do(t, g, tick(id))
		settle(t, g)
	}
	if leader, is := g.Leader(); leader != id || !is {
		t.Fatalf("%d, %v leads", leader, is)
	}
}

// P11.3: a crash with Data of a node that may not propose it, and on a disk
// without room, is a crash.
func TestCrashWithoutAProposal(t *testing.T) {
	for name, a := range map[string]api.Act{
		"a follower": crashProposing(2, math.MaxInt, "x"),
		"too long":   crashProposing(1, math.MaxInt, long(4097)),
		"no data":    {Kind: api.ActCrash, Node: 1, Keep: 99, Data: []byte{}},
	} {
		g := led(t, roomy, 1, 2, 3)
		before := records(t, g, a.Node)
		do(t, g, a)
		if g.Up(a.Node) {
			t.Errorf("%s: it is up", name)
		}
		holds(t, g, a.Node, before...)
		fails(t, g, deliver, api.ErrNone)
	}
	room := len(led(t, roomy, 1).nodes[1].disk.Bytes())
	whole := len(frame.Put(rlog.PutEntry(entry(2, 1, api.Normal, "x"))))
	for more, want := range map[int]int{0: 0, whole - 1: 0, whole: whole} {
		g := led(t, room+more, 1)
		do(t, g, crashProposing(1, math.MaxInt, "x"))
		if n := len(g.nodes[1].disk.Bytes()) - room; n != want {
			t.Errorf("room for %d: %d are written, want %d", more, n, want)
		}
		do(t, g, start(1))
	}
}

// P11.3: ActStart with what is on no disk: it stays down, and may be tried again.
func TestStartWithAnError(t *testing.T) {
	for _, c := range []struct {
		name    string
		records [][]byte
		want    api.Errno
	}{
		{"no record", [][]byte{firstSnap(1, 2), []byte("no record")}, api.ErrRow},
		{"a gap", [][]byte{firstSnap(1, 2), rlog.PutEntry(entry(2, 1, api.Normal, "x"))}, api.ErrLog},
	} {
		g := led(t, roomy, 1, 2)
		do(t, g, propose(1, "x"))
		spread(t, g, 1)
		do(t, g, crash(2))
		before := g.nodes[2].disk.Bytes()
		g.nodes[2].disk.Swap(frames(c.records))
		fails(t, g, start(2), c.want)
		if g.Up(2) {
			t.Errorf("%s: it is up", c.name)
		}
		fails(t, g, tick(2), api.ErrNone)
		fails(t, g, start(2), c.want)
		applied(t, g, 2, "x")
		g.nodes[2].disk.Swap(before)
		do(t, g, start(2))
		applied(t, g, 2)
	}
	g := led(t, roomy, 1, 2)
	do(t, g, crash(2))
	g.nodes[2].disk = &disk.Disk{} // one that tells an error at every call
	fails(t, g, start(2), api.ErrDisk)
	if g.Up(2) {
		t.Error("it is up without a disk")
	}
}

// P11.3: what stands behind the records is cut off at a start.
func TestStartCutsOff(t *testing.T) {
	g := led(t, roomy, 1)
	do(t, g, crashProposing(1, 5, "x"))
	before, size := wal.Records(g.nodes[1].disk.Bytes())
	if size+5 != len(g.nodes[1].disk.Bytes()) {
		t.Fatalf("%d bytes behind the records", len(g.nodes[1].disk.Bytes())-size)
	}
	do(t, g, start(1))
	holds(t, g, 1, before...)
	lead(t, g, 1)
	do(t, g, propose(1, "y"))
	applied(t, g, 1, "y")
}

// P11.2: with a disk that is full the node is down, and what it would send is
// lost; its disk is as it was.
func TestDiskThatRunsFull(t *testing.T) {
	room := len(led(t, roomy, 1, 2, 3).nodes[1].disk.Bytes())
	whole := len(frame.Put(rlog.PutEntry(entry(2, 1, api.Normal, "x"))))
	g := led(t, room+whole, 1, 2, 3)
	do(t, g, propose(1, "x")) // it just fits
	spread(t, g, 1)
	before := records(t, g, 1)
	fails(t, g, propose(1, "y"), api.ErrDisk)
	if g.Up(1) {
		t.Fatal("it is up")
	}
	fails(t, g, deliver, api.ErrNone)
	applied(t, g, 1, "x")
	holds(t, g, 1, before...)
	fails(t, g, propose(1, "y"), api.ErrNone)
	do(t, g, start(1))
	stands(t, g, 1, raft.Follower, 1, 0, 0)
	for range 9 {
		do(t, g, tick(1))
	}
	fails(t, g, tick(1), api.ErrDisk) // not even the vote for itself
	if g.Up(1) || g.lines.Waiting() != 0 {
		t.Errorf("up: %v, %d wait", g.Up(1), g.lines.Waiting())
	}
}

// P11.2, P11.5: what a group of one can't remember it doesn't apply, though a
// majority has it.
func TestWhatIsNotRememberedIsNotApplied(t *testing.T) {
	room := len(led(t, roomy, 1).nodes[1].disk.Bytes())
	whole := len(frame.Put(rlog.PutEntry(entry(2, 1, api.Normal, "a"))))
	for more := range 4 * whole {
		g := led(t, room+more, 1)
		var want []string
		for _, s := range []string{"a", "b", "c"} {
			if _, e := g.Do(propose(1, s)); e == api.OK {
				want = append(want, s)
			} else if e != api.ErrDisk && e != api.ErrNone || g.Up(1) {
				t.Fatalf("room for %d: %d, up %v", more, e, g.Up(1))
			}
		}
		applied(t, g, 1, want...)
		if len(want) != min(more/whole, 3) {
			t.Errorf("room for %d: %q", more, want)
		}
	}
}

// P11.2: a follower whose disk is full falls by what is delivered to it; its
// answer is lost.
func TestFollowerWhoseDiskIsFull(t *testing.T) {
	room := len(led(t, roomy, 1, 2, 3).nodes[1].disk.Bytes())
	g := led(t, room+20, 1, 2, 3)
	do(t, g, propose(1, "x"))
	spread(t, g, 1)
	do(t, g, compact(1)) // the others don't
	do(t, g, propose(1, "y"))
	for range 2 {
		do(t, g, deliver)
	}
	if g.Up(2) || g.Up(3) || !g.Up(1) {
		t.Fatalf("up: %v, %v, %v", g.Up(1), g.Up(2), g.Up(3))
	}
	fails(t, g, deliver, api.ErrNone)
	applied(t, g, 1, "x")
	applied(t, g, 2, "x")
	do(t, g, start(2))
	do(t, g, tick(1))
	settle(t, g)
	if g.Up(2) {
		t.Error("a full disk has room behind a start")
	}
	applied(t, g, 2)
}

// P11.2: ActAdd and ActRemove on a disk without room.
func TestChangeOnAFullDisk(t *testing.T) {
	room := len(led(t, roomy, 1, 2, 3).nodes[1].disk.Bytes())
	for _, a := range []api.Act{add(1, 4), remove(1, 3)} {
		g := led(t, room, 1, 2, 3)
		fails(t, g, a, api.ErrDisk)
		if g.Up(1) || g.lines.Waiting() != 0 {
			t.Errorf("%+v: up %v, %d wait", a, g.Up(1), g.lines.Waiting())
		}
		if g.Up(4) != (a.Kind == api.ActAdd) {
			t.Errorf("%+v: 4 is up: %v", a, g.Up(4))
		}
		do(t, g, start(1))
		if l, _ := g.nodes[1].node.Log().Members(); !slices.Equal(l, []uint64{1, 2, 3}) {
			t.Errorf("%+v: members %v", a, l)
		}
	}
}

// P11.3: ActCompact: the snapshot stands for all that was applied, and is all
// that is on the disk but the hard state and the entries behind it.
func TestCompact(t *testing.T) {
	g := led(t, roomy, 1, 2, 3)
	for _, s := range []string{"a", "b"} {
		do(t, g, propose(1, s))
	}
	spread(t, g, 1)
	do(t, g, propose(1, "c")) // isn't committed
	do(t, g, compact(1))
	s := api.Snap{Index: 3, Term: 1, Members: []uint64{1, 2, 3}, Data: PutList(bytesOf("a", "b"))}
	hard := rlog.PutHard(api.Hard{Term: 1, Vote: 1})
	c := rlog.PutEntry(entry(4, 1, api.Normal, "c"))
	holds(t, g, 1, rlog.PutSnap(s), hard, c)
	applied(t, g, 1, "a", "b")
	fails(t, g, compact(1), api.ErrRange) // twice
	holds(t, g, 1, rlog.PutSnap(s), hard, c)
	spread(t, g, 1)
	applied(t, g, 1, "a", "b", "c")
	do(t, g, compact(1))
	s = api.Snap{Index: 4, Term: 1, Members: []uint64{1, 2, 3}, Data: PutList(bytesOf("a", "b", "c"))}
	holds(t, g, 1, rlog.PutSnap(s), hard)
	do(t, g, tick(1)) // nothing is to be added of it
	holds(t, g, 1, rlog.PutSnap(s), hard)
	do(t, g, crash(1))
	applied(t, g, 1, "a", "b", "c")
	do(t, g, start(1))
	applied(t, g, 1, "a", "b", "c")
	stands(t, g, 1, raft.Follower, 1, 0, 4)
	lead(t, g, 1)
	do(t, g, propose(1, "d"))
	spread(t, g, 1)
	for _, id := range g.Nodes() {
		applied(t, g, id, "a", "b", "c", "d")
	}
}

// P11.3: ActCompact at nothing that was given out, and at entries that have no
// data.
func TestCompactAtNothing(t *testing.T) {
	g := made(t, roomy, 1, 2)
	fails(t, g, compact(1), api.ErrRange)
	holds(t, g, 1, firstSnap(1, 2))
	g = led(t, roomy, 1)
	do(t, g, compact(1))
	s := api.Snap{Index: 1, Term: 1, Members: []uint64{1}, Data: PutList(nil)}
	holds(t, g, 1, rlog.PutSnap(s), rlog.PutHard(api.Hard{Term: 1, Vote: 1}))
	do(t, g, add(1, 2)) // a Config
	settle(t, g)
	do(t, g, compact(1))
	s = api.Snap{Index: 2, Term: 1, Members: []uint64{1, 2}, Data: PutList(nil)}
	holds(t, g, 1, rlog.PutSnap(s), rlog.PutHard(api.Hard{Term: 1, Vote: 1}))
	do(t, g, crash(1))
	do(t, g, start(1))
	applied(t, g, 1)
	fails(t, g, compact(1), api.ErrRange)
}

// P11.3: what is compacted may be 2000 texts, not 2001.
func TestCompactOfMany(t *testing.T) {
	g := led(t, roomy, 1)
	want := numbered(2001)
	for _, s := range want[:2000] {
		do(t, g, propose(1, s))
	}
	do(t, g, compact(1))
	if n := len(g.nodes[1].disk.Bytes()); n > 40000 {
		t.Errorf("the disk has %d bytes", n)
	}
	do(t, g, crash(1))
	do(t, g, start(1))
	applied(t, g, 1, want[:2000]...)
	lead(t, g, 1)
	do(t, g, compact(1)) // of 2000, and an entry without data
	do(t, g, propose(1, want[2000]))
	before := records(t, g, 1)
	fails(t, g, compact(1), api.ErrLong)
	fails(t, g, compact(1), api.ErrLong)
	holds(t, g, 1, before...)
	applied(t, g, 1, want...)
	do(t, g, propose(1, "more"))
	applied(t, g, 1, append(want, "more")...)
}

// P11.3: the node is down, if the snapshot is too long for a record, or the disk
// has no room for it; the disk is as it was.
func TestCompactWithoutRoom(t *testing.T) {
	g := led(t, roomy, 1)
	want := repeat(long(4096), 16) // 65,536 bytes, and some for their lengths
	for _, s := range want {
		do(t, g, propose(1, s))
	}
	before := records(t, g, 1)
	fails(t, g, compact(1), api.ErrWal)
	if g.Up(1) {
		t.Fatal("it is up")
	}
	holds(t, g, 1, before...)
	applied(t, g, 1, want...)
	do(t, g, start(1))
	applied(t, g, 1)
	lead(t, g, 1)
	applied(t, g, 1, want...)

	g = led(t, roomy, 1)
	for _, s := range want[:15] {
		do(t, g, propose(1, s))
	}
	do(t, g, compact(1)) // that is short enough

	g = led(t, roomy, 1, 2)
	do(t, g, propose(1, "x"))
	spread(t, g, 1)
	p := g.nodes[1]
	before = records(t, g, 1)
	p.wal, _, _ = wal.Open(disk.New(20)) // as if its disk were smaller
	fails(t, g, compact(1), api.ErrDisk)
	if g.Up(1) || g.lines.Waiting() != 0 {
		t.Errorf("up: %v, %d wait", g.Up(1), g.lines.Waiting())
	}
	holds(t, g, 1, before...)
	applied(t, g, 1, "x")
}

// P11.2, P11.3: a node that lags behind what was compacted is sent the snapshot,
// also one that is new.
func TestNodeThatLags(t *testing.T) {
	g := led(t, roomy, 1, 2, 3)
	do(t, g, propose(1, "a"))
	spread(t, g, 1)
	do(t, g, crash(3))
	do(t, g, propose(1, "b"))
	do(t, g, propose(1, "c"))
	spread(t, g, 1)
	do(t, g, compact(1))
	do(t, g, propose(1, "d"))
	spread(t, g, 1)
	applied(t, g, 3, "a")
	do(t, g, start(3))
	applied(t, g, 3)
	do(t, g, tick(1))
	settle(t, g)
	applied(t, g, 3, "a", "b", "c", "d")
	s := rlog.PutSnap(api.Snap{Index: 4, Term: 1, Members: []uint64{1, 2, 3}, Data: PutList(bytesOf("a", "b", "c"))})
	if l := records(t, g, 3); !slices.ContainsFunc(l, func(b []byte) bool { return slices.Equal(b, s) }) {
		t.Errorf("node 3 doesn't remember the snapshot: %x", l)
	}
	do(t, g, crash(3))
	do(t, g, start(3))
	applied(t, g, 3, "a", "b", "c")
	spread(t, g, 1)
	do(t, g, add(1, 4))
	spread(t, g, 1)
	applied(t, g, 4, "a", "b", "c", "d")
	do(t, g, compact(4)) // the entry that made it a member is the last one given out
	if s := g.nodes[4].node.Log().Snap(); s.Index != 6 || !slices.Equal(s.Members, []uint64{1, 2, 3, 4}) {
		t.Errorf("compacted to %+v", s)
	}
}

// P11.2, P6.4: a disk on which a wal was rewritten may be filled anew.
func TestCompactMakesRoom(t *testing.T) {
	g := led(t, 300, 1)
	var want []string
	for i := range 40 {
		s := string(rune('a' + i%26))
		if _, e := g.Do(propose(1, s)); e != api.OK {
			t.Fatalf("proposal %d: %d", i, e)
		}
		want = append(want, s)
		if i%5 == 4 {
			do(t, g, compact(1))
		}
	}
	applied(t, g, 1, want...)
}
