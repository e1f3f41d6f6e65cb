package group

import (
	"bytes"
	"fmt"
	"math"
	"math/rand"
	"slices"
	"testing"

	"plenum/api"
	"plenum/raft"
)

// world is a group to which all kinds of things happen, and what P11.5 and P9.9
// are held against: who led in which term, the one list of which all that is
// applied is a beginning, and what was proposed.
type world struct {
	drawn
	t        *testing.T
	g        *Group
	leads    map[uint64]uint64
	list     [][]byte
	proposed map[string]int
	lengths  map[uint64]int // of what each node applied, when it was looked at last

	// Nobody removes itself: of two members the one that is left might need the
	// vote of the other one, whose log is ahead and who doesn't stand any more.
	stay bool

	falls, changes, compacts, crashes, restores int
}

func newWorld(t *testing.T, seed int64) *world {
	d := drawn{rand.New(rand.NewSource(seed))}
	w := &world{drawn: d, t: t, leads: map[uint64]uint64{}, proposed: map[string]int{}, lengths: map[uint64]int{}}
	w.g = New(d.members(), pick(d, 400, 1500, 4000, roomy, roomy, roomy), d.fates()...)
	return w
}

// text answers one that wasn't proposed yet.
func (w *world) text() []byte {
	s := fmt.Sprint("p", len(w.proposed))
	w.proposed[s] = 0
	return []byte(s)
}

// step lets something happen.
func (w *world) step() {
	a := api.Act{Node: w.node(w.g), Other: 1 + uint64(w.Intn(9)), Draw: w.Uint64()}
	switch k := w.Intn(200); {
	case k < 110:
		a.Kind = api.ActDeliver
	case k < 140:
		a.Kind, a.Node = api.ActTick, pick(w.drawn, w.g.Nodes()...)
	case k < 165:
		a.Kind, a.Data = api.ActPropose, w.text()
	case k < 175:
		a.Kind = api.ActTime
	case k < 178:
		a.Kind, a.Node, a.Other = api.ActCut, pick(w.drawn, w.g.Nodes()...), pick(w.drawn, w.g.Nodes()...)
	case k < 182:
		a.Kind, a.Node, a.Other = api.ActMend, pick(w.drawn, w.g.Nodes()...), pick(w.drawn, w.g.Nodes()...)
	case k < 184 && w.Intn(2) == 0:
		a.Kind, a.Node = api.ActCrash, pick(w.drawn, w.g.Nodes()...)
	case k < 185 && w.Intn(2) == 0:
		a.Kind, a.Data, a.Keep = api.ActCrash, w.text(), pick(w.drawn, 0, 5, 14, 20, math.MaxInt)
	case k < 194:
		a.Kind, a.Node = api.ActStart, pick(w.drawn, w.g.Nodes()...)
	case k < 196:
		a.Kind = api.ActAdd
	case k < 198:
		a.Kind = api.ActRemove
	default:
		a.Kind, a.Node = api.ActCompact, pick(w.drawn, w.g.Nodes()...)
	}
	if w.stay && a.Kind == api.ActRemove && a.Node == a.Other {
		return
	}
	up := w.up()
	_, e := w.g.Do(a)
	if a.Kind != api.ActCrash && w.up() < up {
		w.falls++
	}
	w.count(a.Kind, e)
}

// up answers how many nodes are up.
func (w *world) up() int {
	up := 0
	for _, id := range w.g.Nodes() {
		if w.g.Up(id) {
			up++
		}
	}
	return up
}

func (w *world) count(kind int, e api.Errno) {
	switch {
	case e != api.OK:
	case kind == api.ActCrash:
		w.crashes++
	case kind == api.ActAdd || kind == api.ActRemove:
		w.changes++
	case kind == api.ActCompact:
		w.compacts++
	}
}

// agree answers what isn't as P11.5 and P9.9 say, if something isn't.
func (w *world) agree() string {
	for _, id := range w.g.Nodes() {
		role, term, leader, commit := w.g.State(id)
		if who, is := w.leads[term]; role == raft.Leader && (is && who != id || leader != id) {
			return fmt.Sprintf("%d and %d lead in term %d", who, id, term)
		} else if role == raft.Leader {
			w.leads[term] = id
		}
		l := w.g.Applied(id)
		if w.g.Up(id) && uint64(len(l)) > commit {
			return fmt.Sprintf("node %d applied %d, and %d are committed", id, len(l), commit)
		}
		if wrong := w.applies(l); wrong != "" {
			return fmt.Sprintf("node %d: %s", id, wrong)
		}
		if len(l) > w.lengths[id]+16 {
			w.restores++ // no message has so many entries
		}
		w.lengths[id] = len(l)
	}
	return ""
}

// applies answers why what was applied is no beginning of the one list, if it
// isn't; what it has more stands in that list from now on.
func (w *world) applies(l [][]byte) string {
	for i, b := range l {
		if i < len(w.list) && !bytes.Equal(b, w.list[i]) {
			return fmt.Sprintf("%q at %d, and elsewhere %q", b, i, w.list[i])
		}
		if i < len(w.list) {
			continue
		}
		if times, is := w.proposed[string(b)]; !is || times > 0 {
			return fmt.Sprintf("%q at %d: proposed %v, applied %d times", b, i, is, times)
		}
		w.proposed[string(b)]++
		w.list = append(w.list, bytes.Clone(b))
	}
	return ""
}

// P11.5, P9.9: whatever is lost, doubled, held back, cut off, crashed, full and
// changed, behind each act.
func TestAgreed(t *testing.T) {
	var terms, list, falls, changes, compacts, crashes, restores int
	for seed := range int64(160) {
		w := newWorld(t, seed)
		for step := range 2500 {
			if w.Intn(60) == 0 {
				w.g.Run(w.Intn(8), w.Uint64())
			} else {
				w.step()
			}
			if wrong := w.agree(); wrong != "" {
				t.Fatalf("seed %d, step %d: %s", seed, step, wrong)
			}
		}
		terms += len(w.leads)
		list += len(w.list)
		falls += w.falls
		changes += w.changes
		compacts += w.compacts
		crashes += w.crashes
		restores += w.restores
	}
	t.Logf("%d terms with a leader, %d applied, %d falls, %d changes, %d compactions, %d crashes, %d restored", terms, list, falls, changes, compacts, crashes, restores)
	if terms < 500 || list < 5000 || falls < 100 || changes < 300 || compacts < 500 || crashes < 1000 || restores < 100 {
		t.Error("little happens")
	}
}

// P11.5: what was applied somewhere is applied by all that are members, once all
// is mended, started and heard.
func TestAgreedInTheEnd(t *testing.T) {
	for seed := range int64(80) {
		w := newWorld(t, seed)
		if w.g.size != roomy {
			continue
		}
		w.stay = true
		for range 1500 {
			w.step()
		}
		w.mend()
		id := w.leader()
		members, _ := w.g.nodes[id].node.Log().Members()
		for _, m := range members {
			w.g.Do(start(m)) // the furthest log may have told others than were agreed on
		}
		do(t, w.g, api.Act{Kind: api.ActPropose, Node: id, Data: w.text()})
		w.g.Run(20, w.Uint64())
		if wrong := w.agree(); wrong != "" {
			t.Fatalf("seed %d: %s", seed, wrong)
		}
		for _, m := range members {
			if got := len(w.g.Applied(m)); got != len(w.list) {
				t.Errorf("seed %d: node %d applied %d of %d", seed, m, got, len(w.list))
			}
		}
	}
}

// mend mends all, and starts the members that the log tells that is furthest.
// (Nodes that are none any more and don't know it would stand again and again.)
func (w *world) mend() {
	var last, term uint64
	members := w.g.Nodes()
	for _, a := range w.g.Nodes() {
		for _, b := range w.g.Nodes() {
			do(w.t, w.g, mend(a, b))
		}
		w.g.Do(start(a))
		log := w.g.nodes[a].node.Log()
		if t, _ := log.Term(log.Last()); t > term || t == term && log.Last() > last {
			last, term = log.Last(), t
			members, _ = log.Members()
		}
	}
	for _, id := range w.g.Nodes() {
		if !slices.Contains(members, id) {
			do(w.t, w.g, crash(id))
		}
	}
}

// leader lets the group go on till the fates are used up, and answers who leads
// then. Whoever led till then begins anew: a Reject that came late may have let
// it take a member for one that lacks more than it does.
func (w *world) leader() uint64 {
	for range 15 {
		w.g.Run(200, w.Uint64())
	}
	for _, id := range w.g.Nodes() {
		if w.g.Up(id) {
			do(w.t, w.g, crash(id))
			do(w.t, w.g, start(id))
		}
	}
	// Not by Run, whose draws let 1 and 9 stand in the same rounds for ever.
	for range 2000 {
		w.g.Do(api.Act{Kind: api.ActTick, Node: pick(w.drawn, w.g.Nodes()...), Draw: w.Uint64()})
		settle(w.t, w.g)
	}
	id, is := w.g.Leader()
	if !is {
		w.t.Fatal("nobody leads in the end")
	}
	return id
}
