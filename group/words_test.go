package group

import (
	"bytes"
	"fmt"
	"math"
	"math/rand"
	"slices"
	"testing"

	"plenum/api"
	"plenum/frame"
	"plenum/mesh"
	"plenum/raft"
	"plenum/rlog"
)

// told is a node as the chapter's words say it: what is on its disk (all that is
// there between two acts is synced), and, while it is up, a node of raft's.
type told struct {
	id      uint64
	file    []byte
	node    *raft.Node
	applied [][]byte
	last    uint64
}

// byWords is a group as the chapter's words say it, one sentence behind the
// other.
type byWords struct {
	size  int
	nodes []*told // rising
	net   *mesh.Mesh
}

func ofWords(members []uint64, size int, fates []api.Fate) *byWords {
	w := &byWords{size: size, net: mesh.New(fates...)}
	for _, id := range members {
		if !w.make(id, api.Snap{Members: members}) {
			return nil
		}
	}
	return w
}

// make gives a new node a disk with that snapshot, up.
func (w *byWords) make(id uint64, s api.Snap) bool {
	n := &told{id: id}
	if !n.write(w.size, rlog.PutSnap(s)) {
		return false
	}
	n.start()
	w.nodes = append(w.nodes, n)
	slices.SortFunc(w.nodes, func(a, b *told) int {
		if a.id < b.id {
			return -1
		}
		return 1
	})
	return true
}

func (w *byWords) find(id uint64) *told {
	for _, n := range w.nodes {
		if n.id == id {
			return n
		}
	}
	return nil
}

// write writes records behind what is there, all or none.
func (n *told) write(size int, l ...[]byte) bool {
	b := frames(l)
	if len(n.file)+len(b) > size {
		return false
	}
	n.file = append(slices.Clone(n.file), b...)
	return true
}

func (n *told) start() {
	l, size := frame.All(n.file)
	n.file = n.file[:size]
	h, log, _ := rlog.Replay(l)
	n.node = raft.New(n.id, h, log)
	n.laid(log.Snap())
}

func (n *told) laid(s api.Snap) {
	l, e := OfList(s.Data)
	if e != api.OK {
		l = nil
	}
	n.applied, n.last = l, s.Index
}

// turn ends a node's turn.
func (w *byWords) turn(n *told) bool {
	if l := n.node.Records(); len(l) > 0 && !n.write(w.size, l...) {
		n.node = nil
		return false
	}
	for _, m := range n.node.Outbox() {
		w.net.Send(m)
	}
	if s, ok := n.node.Restored(); ok {
		n.laid(s)
	}
	for {
		l := n.node.Committed(1)
		if len(l) == 0 {
			return true
		}
		n.last = l[0].Index
		if l[0].Kind == api.Normal && len(l[0].Data) > 0 {
			n.applied = append(n.applied, l[0].Data)
		}
	}
}

func (w *byWords) do(a api.Act) (uint64, api.Errno) {
	if a.Kind < api.ActTick || a.Kind > api.ActTime {
		return 0, api.ErrRange
	}
	if a.Kind == api.ActDeliver {
		m, ok := w.net.Next()
		if !ok {
			return 0, api.ErrNone
		}
		if n := w.find(m.To); n != nil && n.node != nil {
			n.node.Step(m)
			w.turn(n)
		}
		return 0, api.OK
	}
	if a.Kind == api.ActTime {
		w.net.Tick()
		return 0, api.OK
	}
	if a.Kind == api.ActCut || a.Kind == api.ActMend {
		w.net.Cut(a.Other, a.Node, a.Kind == api.ActCut)
		return 0, api.OK
	}
	n := w.find(a.Node)
	if n == nil || (n.node != nil) == (a.Kind == api.ActStart) {
		return 0, api.ErrNone
	}
	if a.Kind == api.ActStart {
		n.start()
		return 0, api.OK
	}
	if a.Kind == api.ActCrash {
		w.crash(n, a)
		return 0, api.OK
	}
	i, e := w.ask(n, a)
	if e == api.OK && !w.turn(n) {
		return 0, api.ErrDisk
	}
	return i, e
}

func (w *byWords) crash(n *told, a api.Act) {
	synced := len(n.file)
	if len(a.Data) > 0 {
		n.node.Propose(a.Data)
		n.write(w.size, n.node.Records()...)
	}
	if len(n.file)-synced > max(a.Keep, 0) {
		n.file = n.file[:synced+max(a.Keep, 0)]
	}
	n.node = nil
}

// ask asks a node that is up for something.
func (w *byWords) ask(n *told, a api.Act) (uint64, api.Errno) {
	switch a.Kind {
	case api.ActPropose:
		if len(a.Data) == 0 {
			return 0, api.ErrRange
		}
		return n.node.Propose(a.Data)
	case api.ActCompact:
		return 0, w.compact(n)
	case api.ActTick:
		n.node.Tick(a.Draw)
		return 0, api.OK
	}
	if a.Other == 0 {
		return 0, api.ErrRange
	}
	never := w.find(a.Other) == nil
	l, _ := n.node.Log().Members()
	at := slices.Index(l, a.Other)
	switch {
	case a.Kind == api.ActAdd && never && len(w.nodes) == 9:
		return 0, api.ErrRange
	case a.Kind == api.ActAdd && at < 0:
		l = append(l, a.Other)
	case a.Kind == api.ActRemove && at >= 0:
		l = append(l[:at], l[at+1:]...)
	}
	i, e := n.node.Change(l)
	if a.Kind == api.ActAdd && never {
		w.make(a.Other, api.Snap{}) // whatever became of the Change
	}
	return i, e
}

func (w *byWords) compact(n *told) api.Errno {
	if len(n.applied) > 2000 {
		return api.ErrLong
	}
	if e := n.node.Compact(n.last, listBytes(n.applied)); e != api.OK {
		return e
	}
	n.node.Records()
	log := n.node.Log()
	l := [][]byte{rlog.PutSnap(log.Snap()), rlog.PutHard(n.node.Hard())}
	for i := log.First(); i <= log.Last(); i++ {
		l = append(l, rlog.PutEntry(log.Entries(i, 1)[0]))
	}
	b := frames(l)
	if len(l[0]) > 65536 || len(b) > w.size {
		n.node = nil
		if len(l[0]) > 65536 {
			return api.ErrWal
		}
		return api.ErrDisk
	}
	n.file = b
	return api.OK
}

func (w *byWords) run(rounds int, draw uint64) {
	for round := 0; round < rounds && round < 200; round++ {
		for _, n := range w.nodes {
			if n.node != nil {
				w.do(api.Act{Kind: api.ActTick, Node: n.id, Draw: draw + n.id + uint64(round)})
			}
		}
		for e := api.OK; e == api.OK; {
			_, e = w.do(deliver)
		}
		w.net.Tick()
	}
}

// holds answers what of a group is otherwise than the words say, if something
// is.
func (w *byWords) holds(g *Group) string {
	var ids []uint64
	var leader, term uint64
	for _, n := range w.nodes {
		ids = append(ids, n.id)
		if wrong := n.holds(g); wrong != "" {
			return wrong
		}
		if n.node == nil {
			continue
		}
		if r, t, _, _ := n.node.State(); r == raft.Leader && t > term {
			leader, term = n.id, t
		}
	}
	if id, is := g.Leader(); id != leader || is != (leader > 0) {
		return fmt.Sprintf("Leader: %d, %v; want %d", id, is, leader)
	}
	if !slices.Equal(g.Nodes(), ids) {
		return fmt.Sprintf("Nodes: %v, want %v", g.Nodes(), ids)
	}
	if g.lines.Waiting() != w.net.Waiting() {
		return fmt.Sprintf("%d wait, want %d", g.lines.Waiting(), w.net.Waiting())
	}
	return ""
}

func (n *told) holds(g *Group) string {
	if g.Up(n.id) != (n.node != nil) {
		return fmt.Sprintf("node %d is up: %v", n.id, g.Up(n.id))
	}
	var want [4]uint64
	if n.node != nil {
		r, t, l, c := n.node.State()
		want = [4]uint64{uint64(r), t, l, c}
	}
	if r, t, l, c := g.State(n.id); [4]uint64{uint64(r), t, l, c} != want {
		return fmt.Sprintf("node %d is %d, %d, %d, %d; want %v", n.id, r, t, l, c, want)
	}
	if !sameList(g.Applied(n.id), n.applied) {
		return fmt.Sprintf("node %d applied %q, want %q", n.id, g.Applied(n.id), n.applied)
	}
	if d := g.nodes[n.id].disk; !bytes.Equal(d.Bytes(), n.file) || d.Synced() != len(n.file) {
		return fmt.Sprintf("node %d's disk has %x (%d synced), want %x", n.id, d.Bytes(), d.Synced(), n.file)
	}
	return ""
}

// drawn is where a run's draws come from.
type drawn struct{ *rand.Rand }

func pick[T any](d drawn, l ...T) T { return l[d.Intn(len(l))] }

// node draws a node, mostly one that there is; the leader is asked most often.
func (d drawn) node(g *Group) uint64 {
	if id, is := g.Leader(); is && d.Intn(3) > 0 {
		return id
	}
	if d.Intn(15) == 0 {
		return pick[uint64](d, 0, 12, math.MaxUint64)
	}
	return pick(d, g.Nodes()...)
}

func (d drawn) data() []byte {
	switch d.Intn(30) {
	case 0:
		return nil
	case 1:
		return make([]byte, pick(d, 4096, 4097))
	}
	return fmt.Appendf(nil, "%d", d.Intn(100000))
}

// act draws an act of any Kind. Those that let a group go on are frequent.
func (d drawn) act(g *Group) api.Act {
	a := api.Act{Kind: pick(d, api.ActCut, api.ActMend, api.ActMend, api.ActAdd, api.ActRemove, api.ActCompact, api.ActCrash, api.ActStart, api.ActStart, d.Intn(14)-1)}
	if d.Intn(10) > 0 {
		a.Kind = pick(d, api.ActDeliver, api.ActDeliver, api.ActDeliver, api.ActTick, api.ActTick, api.ActPropose, api.ActTime)
	}
	a.Node, a.Other, a.Draw = d.node(g), uint64(d.Intn(12)), d.Uint64()
	switch a.Kind {
	case api.ActPropose:
		a.Data = d.data()
	case api.ActCrash:
		a.Keep = pick(d, -1, 0, 1, 9, 14, 15, 16, 1000, math.MaxInt, math.MinInt)
		a.Data = pick(d, nil, d.data())
	case api.ActTick, api.ActStart:
		a.Node = pick(d, g.Nodes()...)
	}
	return a
}

func (d drawn) fates() []api.Fate {
	var l []api.Fate
	for range pick(d, 0, 10, 300, 2000) {
		f := api.Fate{Times: 1}
		switch d.Intn(5) {
		case 0:
			f = api.Fate{Times: d.Intn(4), Delay: d.Intn(6)}
		case 1:
			f.Delay = d.Intn(3)
		}
		l = append(l, f)
	}
	return l
}

func (d drawn) members() []uint64 {
	var l []uint64
	for id := range uint64(1 + d.Intn(5)) {
		l = append(l, id+1)
	}
	if d.Intn(12) == 0 {
		l = []uint64{1, 2, 3, 4, 5, 6, 7, 8, 9}
	}
	return l
}

// P11.1 to P11.4: in long drawn runs a group is as the words say, in every answer
// and on every disk.
func TestDrawnRunsAgainstTheWords(t *testing.T) {
	seen := map[string]int{}
	for seed := range int64(240) {
		d := drawn{rand.New(rand.NewSource(seed))}
		members, size, fates := d.members(), pick(d, 30, 100, 300, 900, roomy, roomy), d.fates()
		g, w := New(members, size, fates...), ofWords(members, size, fates)
		if (g == nil) != (w == nil) {
			t.Fatalf("seed %d: New(%v, %d): %v", seed, members, size, g)
		}
		for step := 0; g != nil && step < 700; step++ {
			wrong := d.both(g, w, seen)
			if wrong == "" && step%7 == 0 {
				wrong = w.holds(g)
			}
			if wrong != "" {
				t.Fatalf("seed %d, step %d: %s", seed, step, wrong)
			}
		}
	}
	for _, what := range []string{
		"1 0", "1 3", "1 60", "2 0", "2 3", "3 0", "3 1", "3 2", "3 3", "3 60", "3 90", "4 0", "4 3", "5 0", "5 3", "6 0", "7 0",
		"8 0", "8 1", "8 3", "8 90", "8 91", "9 0", "9 1", "9 3", "9 90", "9 91", "10 0", "10 1", "10 3", "11 0", "0 1", "12 1", "run",
	} {
		if seen[what] < 3 {
			t.Errorf("the runs have few of Kind and error %s: %d", what, seen[what])
		}
	}
}

// both does the same to both, and answers in what they differ, if they do.
func (d drawn) both(g *Group, w *byWords, seen map[string]int) string {
	if d.Intn(40) == 0 {
		rounds, draw := d.Intn(14)-1, d.Uint64()
		g.Run(rounds, draw)
		w.run(rounds, draw)
		seen["run"]++
		return w.holds(g)
	}
	a := d.act(g)
	i, e := g.Do(a)
	wi, we := w.do(a)
	seen[fmt.Sprint(a.Kind, " ", int(e))]++
	if i != wi || e != we {
		return fmt.Sprintf("%+v: %d, %d; want %d, %d", a, i, e, wi, we)
	}
	return ""
}
