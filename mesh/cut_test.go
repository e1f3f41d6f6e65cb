package mesh

import (
	"math"
	"testing"

	"plenum/api"
)

// line is two nodes.
type line struct{ a, b uint64 }

// lines are pairs of nodes of which no two are the same, whatever the order in
// a pair.
func lines() []line {
	return []line{{1, 2}, {1, 3}, {2, 3}, {0, 1}, {0, 0}, {1, 1}, {2, 2}, {0, math.MaxUint64}, {math.MaxUint64, math.MaxUint64}, {1 << 32, 1}, {1 << 32, 2}, {12, 3}}
}

// passes answers whether a message from a to b comes.
func passes(t *testing.T, m *Mesh, a, b uint64) bool {
	t.Helper()
	want := api.Msg{Kind: api.AskVote, From: a, To: b}
	m.Send(want)
	x, is := m.Next()
	if is && !same(x, want) {
		t.Fatalf("from %d to %d: %v came", a, b, x)
	}
	none(t, "behind it", m, 0)
	return is
}

// onlyCut holds m to letting messages pass, in both directions, on each line but
// those that are cut.
func onlyCut(t *testing.T, what string, m *Mesh, cut ...line) {
	t.Helper()
	for _, l := range lines() {
		want := true
		for _, c := range cut {
			want = want && c != l
		}
		if passes(t, m, l.a, l.b) != want || passes(t, m, l.b, l.a) != want {
			t.Errorf("%s: between %d and %d messages pass: %v", what, l.a, l.b, !want)
		}
	}
}

// P10.3: in both orders of the two nodes, of a node from itself, and that no
// other line is cut.
func TestCut(t *testing.T) {
	for _, l := range lines() {
		for _, order := range []line{l, {l.b, l.a}} {
			m := New()
			onlyCut(t, "nothing cut", m)
			m.Cut(order.a, order.b, true)
			none(t, "Cut", m, 0)
			onlyCut(t, "one line cut", m, l)
			ticks(t, m, 150)
			onlyCut(t, "one line cut, later", m, l)
		}
	}
}

// P10.3: taken back in either order of the two nodes, also if it was cut twice,
// and cut again.
func TestCutTakenBack(t *testing.T) {
	for _, l := range lines() {
		for _, back := range []line{l, {l.b, l.a}} {
			m := New()
			m.Cut(l.a, l.b, true)
			m.Cut(back.a, back.b, true)
			onlyCut(t, "cut twice", m, l)
			m.Cut(back.a, back.b, false)
			onlyCut(t, "cut twice and taken back", m)
			m.Cut(l.a, l.b, false)
			onlyCut(t, "taken back twice", m)
			m.Cut(back.a, back.b, true)
			onlyCut(t, "cut again", m, l)
		}
	}
}

// P10.3: of two that weren't cut off nothing is taken back, and nothing of
// others.
func TestCutTakenBackOfNone(t *testing.T) {
	for _, l := range lines() {
		m := New()
		m.Cut(l.a, l.b, false)
		m.Cut(l.b, l.a, false)
		onlyCut(t, "taken back without a cut", m)
		m.Cut(l.a, l.b, true)
		for _, other := range lines() {
			if other != l {
				m.Cut(other.a, other.b, false)
				m.Cut(other.b, other.a, false)
			}
		}
		onlyCut(t, "others taken back", m, l)
	}
}

// P10.3: several at once, each taken back on its own.
func TestCutOfSeveral(t *testing.T) {
	m := New()
	var cut []line
	for _, l := range lines() {
		m.Cut(l.b, l.a, true)
		cut = append(cut, l)
		onlyCut(t, "several cut", m, cut...)
	}
	for len(cut) > 0 {
		m.Cut(cut[0].a, cut[0].b, false)
		cut = cut[1:]
		onlyCut(t, "some taken back", m, cut...)
	}
}

// P10.3: what waits stays, in both directions, due or not; what is sent behind
// the cut doesn't wait, and what wasn't let pass doesn't come once the cut is
// taken back.
func TestWhatWaitsStays(t *testing.T) {
	there, back := api.Msg{From: 1, To: 2, Index: 1}, api.Msg{From: 2, To: 1, Index: 2}
	for _, order := range []line{{1, 2}, {2, 1}} {
		m := New(api.Fate{Times: 2}, api.Fate{Times: 1}, api.Fate{Times: 1, Delay: 3}, api.Fate{Times: 2, Delay: 3})
		m.Send(there, back, back, there)
		waits(t, "ahead of the cut", m, 6)
		m.Cut(order.a, order.b, true)
		waits(t, "behind the cut", m, 6)
		m.Send(there, back, there)
		waits(t, "behind a Send that is cut off", m, 6)
		come(t, m, there, there, back)
		none(t, "held back", m, 3)
		ticks(t, m, 2)
		m.Cut(order.a, order.b, false)
		none(t, "the cut taken back", m, 3)
		ticks(t, m, 1)
		come(t, m, back, there, there)
		none(t, "all of it", m, 0)
	}
}

// come holds Next to these messages, one behind the other.
func come(t *testing.T, m *Mesh, want ...api.Msg) {
	t.Helper()
	for i, w := range want {
		if x, is := m.Next(); !is || !same(x, w) {
			t.Fatalf("the message at %d: %v, %v; want %v", i, x, is, w)
		}
	}
}

// P10.2: of a message between two that are cut off nothing waits, whatever its
// fate, and that fate is used up.
func TestCutUsesUpAFate(t *testing.T) {
	cutOff := []api.Msg{{From: 1, To: 2}, {From: 2, To: 1}}
	m := New(api.Fate{Times: 3}, api.Fate{Times: 2, Delay: 1}, api.Fate{Times: 3, Delay: 100}, api.Fate{Times: 2}, api.Fate{Times: 3, Delay: 7})
	m.Cut(2, 1, true)
	m.Send(cutOff...)
	none(t, "cut off", m, 0)
	m.Send(cutOff[0], api.Msg{From: 3, To: 1, Index: 5}, cutOff[1])
	waits(t, "one that isn't cut off", m, 2)
	come(t, m, api.Msg{From: 3, To: 1, Index: 5}, api.Msg{From: 3, To: 1, Index: 5})
	none(t, "one that isn't cut off", m, 0)
	m.Cut(1, 2, false)
	m.Send(cutOff...)
	waits(t, "behind the fates", m, 2)
	come(t, m, cutOff...)
	ticks(t, m, 101)
	none(t, "later", m, 0)
}

// P10.3: a mesh that nobody made keeps nothing, whatever is called, in whatever
// order, and none of it panics.
func TestAMeshThatNobodyMade(t *testing.T) {
	for what, m := range map[string]*Mesh{"nil": nil, "the zero one": {}} {
		none(t, what, m, 0)
		m.Tick()
		m.Cut(1, 2, true)
		none(t, what+", cut", m, 0)
		m.Send()
		m.Send(nil...)
		m.Send(full(), api.Msg{}, api.Msg{From: 1, To: 2}, api.Msg{From: 2, To: 3})
		none(t, what+", behind a Send", m, 0)
		m.Cut(1, 2, false)
		m.Cut(0, 0, true)
		m.Cut(5, 6, false)
		m.Send(numbered(1, 2, 3)...)
		for range 102 {
			m.Tick()
			none(t, what+", later", m, 0)
		}
	}
	var zero Mesh
	zero.Send(numbered(1)...)
	none(t, "the zero value", &zero, 0)
}

// P3: meshes know nothing of each other.
func TestTwoMeshes(t *testing.T) {
	fates := []api.Fate{{Times: 2}, {Times: 1, Delay: 1}}
	a, b := New(fates...), New(fates...)
	a.Cut(1, 2, true)
	a.Send(numbered(0)...)
	b.Send(numbered(1, 2)...)
	b.Tick()
	none(t, "the one that is cut", a, 0)
	all(t, "the other one", b, 0, 1, 1, 2)
	a.Cut(1, 2, false)
	b.Cut(1, 2, true)
	a.Send(numbered(3)...)
	none(t, "the other one, cut", b, 0)
	none(t, "held back", a, 1)
	a.Tick()
	all(t, "the one that isn't cut any more", a, 0, 3)
}
