package mesh

import (
	"math"
	"slices"
	"testing"

	"plenum/api"
)

// numbered answers messages that are told apart by these numbers, all on one
// line.
func numbered(numbers ...uint64) []api.Msg {
	var l []api.Msg
	for _, n := range numbers {
		l = append(l, api.Msg{Kind: api.AskVote, From: 1, To: 2, Index: n})
	}
	return l
}

// counted answers the numbers from 0 up to n, n left out.
func counted(n int) []uint64 {
	var l []uint64
	for i := range n {
		l = append(l, uint64(i))
	}
	return l
}

// waits holds m to how many wait.
func waits(t *testing.T, what string, m *Mesh, want int) {
	t.Helper()
	if got := m.Waiting(); got != want {
		t.Errorf("%s: %d wait, want %d", what, got, want)
	}
}

// none holds Next to answering nothing, with that many waiting ahead of it and
// behind it.
func none(t *testing.T, what string, m *Mesh, waiting int) {
	t.Helper()
	waits(t, what+", ahead of Next", m, waiting)
	if x, is := m.Next(); is || !same(x, api.Msg{}) {
		t.Errorf("%s: Next answered %v, %v; want nothing", what, x, is)
	}
	waits(t, what+", behind Next", m, waiting)
}

// next holds Next to the messages with these numbers, one behind the other, and
// Waiting to one fewer behind each.
func next(t *testing.T, what string, m *Mesh, want ...uint64) {
	t.Helper()
	waiting := m.Waiting()
	for i, n := range want {
		x, is := m.Next()
		if !is || !same(x, numbered(n)[0]) {
			t.Fatalf("%s: the message at %d is %v, %v; want number %d", what, i, x, is, n)
		}
		waits(t, what, m, waiting-i-1)
	}
}

// all holds m to having just these due, and so many that aren't.
func all(t *testing.T, what string, m *Mesh, held int, want ...uint64) {
	t.Helper()
	waits(t, what, m, held+len(want))
	next(t, what, m, want...)
	none(t, what, m, held)
}

// ticks lets so much time pass, which changes nothing of how many wait.
func ticks(t *testing.T, m *Mesh, n int) {
	t.Helper()
	waiting := m.Waiting()
	for range n {
		m.Tick()
		waits(t, "Tick", m, waiting)
	}
}

// P10.1: nothing waits on a new mesh, whatever the fates.
func TestNewIsEmpty(t *testing.T) {
	for _, fates := range [][]api.Fate{nil, {}, {{}}, {{Times: 3, Delay: 2}}, make([]api.Fate, 50), {{Times: math.MaxInt, Delay: math.MinInt}}} {
		m := New(fates...)
		if m == nil {
			t.Fatalf("New(%v): nil", fates)
		}
		none(t, "a new mesh", m, 0)
		ticks(t, m, 102)
		none(t, "a new mesh, later", m, 0)
	}
	if m := New(); m == nil {
		t.Error("New(): nil")
	}
}

// The chapter's example: without fates messages come in order, once.
func TestExample(t *testing.T) {
	for _, m := range []*Mesh{New(), New(nil...), New([]api.Fate{}...)} {
		m.Send(numbered(counted(40)...)...)
		all(t, "without fates", m, 0, counted(40)...)
		ticks(t, m, 101)
		none(t, "without fates, later", m, 0)
	}
}

// P10.2: none, one and many, in one call and in several, with Next and Tick
// between them.
func TestSend(t *testing.T) {
	m := New()
	m.Send()
	m.Send(nil...)
	m.Send([]api.Msg{}...)
	none(t, "Send of none", m, 0)
	m.Send(numbered(0)...)
	all(t, "Send of one", m, 0, 0)
	m.Send(numbered(1, 2, 3)...)
	waits(t, "Send of three", m, 3)
	m.Send()
	m.Send(numbered(4)...)
	waits(t, "Send of one more", m, 4)
	next(t, "Send in several calls", m, 1, 2)
	m.Send(numbered(5, 6)...)
	ticks(t, m, 3)
	m.Send(numbered(7)...)
	all(t, "Send in several calls", m, 0, 3, 4, 5, 6, 7)
	m.Send(numbered(8)...)
	all(t, "Send behind all of it", m, 0, 8)
}

// P10.2: a message comes as it was sent, whatever it says, and the same one
// twice comes twice.
func TestMessagesComeAsTheyWere(t *testing.T) {
	l := []api.Msg{
		{}, full(), {Kind: -1}, {Kind: math.MinInt, From: math.MaxUint64, To: math.MaxUint64}, full(), full(),
		{Kind: api.AskSnap, From: 3, Snap: api.Snap{Members: []uint64{3, 3, 0}}}, {Reject: true}, {To: 9, Hint: 8}, {},
		{Entries: []api.Entry{{}, {Kind: 77, Data: []byte{}}, {Data: []byte{0, 0xff}}}},
	}
	m := New(api.Fate{Times: 1}, api.Fate{Times: 1})
	m.Send(l...)
	for i, want := range l {
		if x, is := m.Next(); !is || !same(x, want) {
			t.Errorf("the message at %d: %v, %v; want %v", i, x, is, want)
		}
	}
	none(t, "all that was sent", m, 0)
}

// P10.1: the k-th message has the k-th fate, however the calls part them, and
// one without comes once, at once.
func TestFatesGoByTheMessagesSent(t *testing.T) {
	fates := []api.Fate{{Times: 2}, {}, {Times: 1, Delay: 1}, {Times: 3}}
	for _, parts := range [][]int{{6}, {1, 5}, {2, 0, 4}, {1, 1, 1, 1, 1, 1}, {3, 3}, {5, 1}, {4, 2}} {
		m := New(fates...)
		at := 0
		for _, size := range parts {
			m.Send(numbered(counted(6)[at : at+size]...)...)
			at += size
		}
		all(t, "fewer fates than messages", m, 1, 0, 0, 3, 3, 3, 4, 5)
		ticks(t, m, 1)
		all(t, "fewer fates than messages, later", m, 0, 2)
		m.Send(numbered(6)...)
		all(t, "behind the fates", m, 0, 6)
	}
}

// P10.1: fates that no message uses change nothing, and neither Next nor Tick
// nor Cut uses one up.
func TestMoreFatesThanMessages(t *testing.T) {
	m := New(api.Fate{Times: 2}, api.Fate{Times: 3, Delay: 2}, api.Fate{Times: 2, Delay: 9}, api.Fate{Times: 1, Delay: 100})
	m.Next()
	m.Tick()
	m.Cut(1, 2, true)
	m.Cut(1, 2, false)
	m.Send()
	m.Send(numbered(0)...)
	all(t, "the first fate", m, 0, 0, 0)
	ticks(t, m, 5)
	m.Send(numbered(1)...)
	none(t, "the second fate", m, 3)
	ticks(t, m, 2)
	all(t, "the second fate, later", m, 0, 1, 1, 1)
	ticks(t, m, 101)
	none(t, "fates without messages", m, 0)
}

// times and delays are the edges of both numbers of a fate, with what the
// chapter makes of them.
func times() map[int]int {
	return map[int]int{math.MinInt: 0, math.MinInt32: 0, -3: 0, -1: 0, 0: 0, 1: 1, 2: 2, 3: 3, 4: 3, 5: 3, 256: 3, math.MaxInt32: 3, math.MaxInt: 3}
}

func delays() map[int]int {
	return map[int]int{math.MinInt: 0, math.MinInt32: 0, -100: 0, -1: 0, 0: 0, 1: 1, 2: 2, 50: 50, 99: 99, 100: 100, 101: 100, 200: 100, math.MaxInt32: 100, math.MaxInt: 100}
}

// P10.2: every edge of Times with every edge of Delay, from time 0 on and from
// a later one.
func TestTimesAndDelay(t *testing.T) {
	for given, copies := range times() {
		for wait, delay := range delays() {
			for _, start := range []int{0, 1, 250} {
				m := New(api.Fate{Times: given, Delay: wait})
				ticks(t, m, start)
				m.Send(numbered(7)...)
				for range delay {
					none(t, "ahead of its time", m, copies)
					ticks(t, m, 1)
				}
				all(t, "at its time", m, 0, slices.Repeat([]uint64{7}, copies)...)
				ticks(t, m, 102)
				none(t, "behind its time", m, 0)
			}
		}
	}
}

// P10.2: what nobody took stays due, and comes ahead of what is due later.
func TestNextTellsWhatWasDueFirst(t *testing.T) {
	m := New(api.Fate{Times: 1, Delay: 5}, api.Fate{Times: 1, Delay: 2}, api.Fate{Times: 2, Delay: 100}, api.Fate{Times: 1, Delay: 2}, api.Fate{Times: 1}, api.Fate{Times: 1, Delay: 3})
	m.Send(numbered(0, 1, 2, 3, 4, 5)...)
	ticks(t, m, 99)
	m.Send(numbered(6)...) // due at 99, ahead of what waits till 100
	ticks(t, m, 1)
	m.Send(numbered(7)...) // due at 100 like number 2, but sent later
	all(t, "all at once", m, 0, 4, 1, 3, 5, 0, 6, 2, 2, 7)
}

// P10.2: what was sent later and is due sooner comes sooner; of what is due
// together the one that was sent first comes first, at whatever time.
func TestDueTogetherAndSooner(t *testing.T) {
	m := New(api.Fate{Times: 1, Delay: 3}, api.Fate{Times: 1, Delay: 1}, api.Fate{Times: 2, Delay: 2}, api.Fate{Times: 1, Delay: 1}, api.Fate{Times: 1})
	m.Send(numbered(0, 1)...) // due at 3 and at 1
	ticks(t, m, 1)
	m.Send(numbered(2)...) // twice, due at 3
	ticks(t, m, 1)
	m.Send(numbered(3)...) // due at 3
	next(t, "due at 1", m, 1)
	none(t, "nothing due at 2", m, 4)
	ticks(t, m, 1)
	m.Send(numbered(4)...) // due at 3
	all(t, "due at 3", m, 0, 0, 2, 2, 3, 4)
}

// P10.2: the same when nobody asks between the ticks: what wasn't taken while it
// was due is held against what became due later.
func TestDueTogetherLongAgo(t *testing.T) {
	m := New(api.Fate{Times: 1, Delay: 2}, api.Fate{Times: 1}, api.Fate{Times: 1, Delay: 1}, api.Fate{Times: 1}, api.Fate{Times: 1})
	m.Send(numbered(0, 1)...) // due at 2 and at 0
	ticks(t, m, 1)
	m.Send(numbered(2, 3)...) // due at 2 and at 1
	ticks(t, m, 1)
	m.Send(numbered(4)...) // due at 2
	ticks(t, m, 200)
	m.Send(numbered(5)...)
	all(t, "long behind their times", m, 0, 1, 3, 0, 2, 4, 5)
}

// P10.2: pairs of delays and of ticks between the two, taken at the end: by the
// time they were due, and when that is one, by who was sent first.
func TestOrderOfTwo(t *testing.T) {
	numbers := []int{0, 1, 2, 3, 4, 49, 50, 51, 52, 96, 97, 98, 99, 100}
	for _, first := range numbers {
		for _, second := range numbers {
			for _, between := range numbers {
				m := New(api.Fate{Times: 1, Delay: first}, api.Fate{Times: 1, Delay: second})
				m.Send(numbered(0)...)
				ticks(t, m, between)
				m.Send(numbered(1)...)
				ticks(t, m, 100)
				want := []uint64{0, 1}
				if between+second < first {
					want = []uint64{1, 0}
				}
				all(t, "two messages", m, 0, want...)
			}
		}
	}
}

// P10.2: copies of one message stand together, ahead of what was sent behind
// it, and each is taken on its own.
func TestCopies(t *testing.T) {
	m := New(api.Fate{Times: 3}, api.Fate{Times: 2}, api.Fate{Times: 3, Delay: 1}, api.Fate{Times: 9, Delay: 1})
	m.Send(numbered(0, 1, 2, 3)...)
	next(t, "one of three copies", m, 0)
	ticks(t, m, 1)
	m.Send(numbered(4)...)
	all(t, "the other copies", m, 0, 0, 0, 1, 1, 2, 2, 2, 3, 3, 3, 4)
}

// P10.2: a message of which nothing waits changes nothing of the others.
func TestLostAmongOthers(t *testing.T) {
	m := New(api.Fate{}, api.Fate{Times: 1}, api.Fate{Times: -1}, api.Fate{Times: math.MinInt, Delay: 1}, api.Fate{Times: 1, Delay: 1})
	m.Send(numbered(0, 1, 2, 3, 4)...)
	all(t, "those that aren't lost", m, 1, 1)
	ticks(t, m, 1)
	all(t, "those that aren't lost, later", m, 0, 4)
}

// P10.2: many messages, taken while others are sent, come once each and in
// order.
func TestManyMessages(t *testing.T) {
	m := New()
	sent, taken := uint64(0), uint64(0)
	for round := range 300 {
		for range round % 17 {
			m.Send(numbered(sent)...)
			sent++
		}
		for range min(round%13, int(sent-taken)) {
			next(t, "many messages", m, taken)
			taken++
		}
		m.Tick()
		waits(t, "many messages", m, int(sent-taken))
	}
	for ; taken < sent; taken++ {
		next(t, "the rest of them", m, taken)
	}
	none(t, "many messages", m, 0)
}
