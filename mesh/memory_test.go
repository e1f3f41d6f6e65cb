package mesh

import (
	"slices"
	"testing"

	"plenum/api"
)

// full answers a message in which every field says something, always the same,
// in new memory.
func full() api.Msg {
	return api.Msg{
		Kind: api.AskSnap, From: 1, To: 2, Term: 3, Index: 4, LogTerm: 5, Commit: 6, Hint: 7, Reject: true,
		Entries: []api.Entry{{Index: 8, Term: 9, Data: []byte("data")}, {Index: 10, Term: 11, Kind: api.Config, Data: []byte("more")}, {}},
		Snap:    api.Snap{Index: 12, Term: 13, Members: []uint64{1, 2, 3}, Data: []byte("snap")},
	}
}

// spoil changes all that the message's lists hold, up to their capacity.
func spoil(x api.Msg) {
	for _, e := range x.Entries {
		spoilBytes(e.Data)
	}
	for i := range x.Entries[:cap(x.Entries)] {
		x.Entries[:cap(x.Entries)][i] = api.Entry{Index: 99, Data: []byte("spoilt")}
	}
	for i := range x.Snap.Members[:cap(x.Snap.Members)] {
		x.Snap.Members[:cap(x.Snap.Members)][i] = 99
	}
	spoilBytes(x.Snap.Data)
}

func spoilBytes(b []byte) {
	for i := range b[:cap(b)] {
		b[:cap(b)][i] = '!'
	}
}

// taken takes the next message and holds it to full.
func taken(t *testing.T, what string, m *Mesh) api.Msg {
	t.Helper()
	x, is := m.Next()
	if !is || !same(x, full()) {
		t.Fatalf("%s: %v, %v; want %v", what, x, is, full())
	}
	return x
}

// P2: neither the fates nor the messages that are handed in are changed.
func TestNothingHandedInIsChanged(t *testing.T) {
	fates := []api.Fate{{Times: 9, Delay: -1}, {Times: -9, Delay: 101}, {Times: 2, Delay: 1}}
	m := New(fates...)
	l := []api.Msg{full(), full(), full(), full()}
	m.Send(l...)
	m.Cut(1, 2, true)
	m.Send(l...)
	m.Tick()
	waits(t, "those that aren't lost", m, 6)
	for range 6 {
		spoil(taken(t, "those that aren't lost", m))
	}
	for i, x := range l {
		if !same(x, full()) {
			t.Errorf("the message at %d was changed: %v", i, x)
		}
	}
	if want := []api.Fate{{Times: 9, Delay: -1}, {Times: -9, Delay: 101}, {Times: 2, Delay: 1}}; !slices.Equal(fates, want) {
		t.Errorf("the fates were changed: %v", fates)
	}
}

// P2: what waits isn't changed by a change of what was handed in.
func TestWhatWaitsIsKeptApartFromWhatWasHandedIn(t *testing.T) {
	fates := []api.Fate{{Times: 2}, {Times: 1, Delay: 1}, {Times: 3, Delay: 2}}
	m := New(fates...)
	clear(fates)
	l := []api.Msg{full(), full()}
	m.Send(l...)
	for i := range l {
		spoil(l[i])
		l[i] = api.Msg{Kind: 77}
	}
	x := full()
	m.Send(x)
	spoil(x)
	waits(t, "all copies", m, 6)
	taken(t, "due at 0", m)
	taken(t, "due at 0", m)
	none(t, "held back", m, 4)
	m.Tick()
	taken(t, "due at 1", m)
	m.Tick()
	for range 3 {
		taken(t, "due at 2", m)
	}
	none(t, "all of it", m, 0)
}

// P2: what waits, and what is sent later, isn't changed by a change of what was
// handed out; copies of one message are apart from each other.
func TestWhatWaitsIsKeptApartFromWhatWasHandedOut(t *testing.T) {
	m := New(api.Fate{Times: 3}, api.Fate{Times: 3, Delay: 1})
	x := full()
	m.Send(x, x, x, x)
	for range 5 {
		spoil(taken(t, "due at 0", m))
	}
	m.Tick()
	m.Send(x)
	for range 4 {
		spoil(taken(t, "due at 1", m))
	}
	none(t, "all of it", m, 0)
	if !same(x, full()) {
		t.Errorf("what was handed in was changed: %v", x)
	}
}

// P2: no two answers share memory, nor does an answer change by what is done to
// the mesh later.
func TestAnswersAreApart(t *testing.T) {
	m := New(api.Fate{Times: 2}, api.Fate{Times: 1})
	x := full()
	m.Send(x, x, x)
	a, b, c, d := taken(t, "first", m), taken(t, "second", m), taken(t, "third", m), taken(t, "fourth", m)
	for range 50 {
		m.Send(api.Msg{Kind: 77, Entries: []api.Entry{{Data: []byte("other")}}})
		m.Tick()
	}
	for range 50 {
		m.Next()
	}
	for _, y := range []api.Msg{a, b, c, d} {
		if !same(y, full()) {
			t.Errorf("an answer was changed: %v", y)
		}
		spoil(y)
	}
	if !same(x, full()) {
		t.Errorf("what was handed in was changed: %v", x)
	}
}

// P2: the lists of one answer share no memory with each other: each may grow
// without a change of another.
func TestListsOfOneAnswerAreApart(t *testing.T) {
	m := New()
	shared := []byte("one and the same")
	members := []uint64{5, 6, 7}
	m.Send(api.Msg{
		Entries: []api.Entry{{Data: shared[:5]}, {Data: shared[5:]}, {Data: shared}},
		Snap:    api.Snap{Members: members, Data: shared[2:9]},
	})
	x, _ := m.Next()
	spoilBytes(x.Entries[0].Data)
	if got := string(x.Entries[1].Data) + "|" + string(x.Entries[2].Data) + "|" + string(x.Snap.Data); got != "nd the same|one and the same|e and t" {
		t.Errorf("behind a change of the first: %q", got)
	}
	spoilBytes(x.Entries[2].Data)
	if got := string(x.Entries[1].Data) + "|" + string(x.Snap.Data); got != "nd the same|e and t" {
		t.Errorf("behind a change of the third: %q", got)
	}
	if string(shared) != "one and the same" {
		t.Errorf("what was handed in was changed: %q", shared)
	}
}

// hidden answers full in lists that hold more behind their length.
func hidden() api.Msg {
	x := full()
	for i, e := range x.Entries {
		x.Entries[i].Data = append(e.Data, "hidden"...)[:len(e.Data)]
	}
	x.Entries = append(x.Entries, api.Entry{Index: 99, Data: []byte("hidden")})[:len(x.Entries)]
	x.Snap.Members = append(x.Snap.Members, 99)[:len(x.Snap.Members)]
	x.Snap.Data = append(x.Snap.Data, "hidden"...)[:len(x.Snap.Data)]
	return x
}

// P2: what lies behind a list's length is neither sent nor handed out nor
// written, of fates and of messages.
func TestBehindTheLength(t *testing.T) {
	fates := []api.Fate{{Times: 2}, {}, {Times: 3, Delay: 100}}
	m := New(fates[:1]...)
	l := []api.Msg{hidden(), hidden(), {Kind: 77}}
	m.Send(l[:2]...)
	for range 3 {
		x := taken(t, "lists with more behind them", m)
		unseen(t, x)
		spoil(x)
	}
	none(t, "a message behind the length", m, 0)
	if l[2].Kind != 77 || fates[1] != (api.Fate{}) || fates[2] != (api.Fate{Times: 3, Delay: 100}) {
		t.Errorf("what lay behind the length was changed: %v, %v", l[2], fates[1:])
	}
	for i := range 2 {
		n := len(l[i].Entries)
		more := l[i].Entries[:n+1]
		if more[n].Index != 99 || string(more[n].Data) != "hidden" || l[i].Snap.Members[:4][3] != 99 || string(l[i].Snap.Data[:10]) != "snaphidden" {
			t.Errorf("what lay behind the lists of the message at %d was changed", i)
		}
	}
}

// unseen holds all that lies behind the lengths of an answer's lists to
// nothing.
func unseen(t *testing.T, x api.Msg) {
	t.Helper()
	for _, e := range x.Entries[len(x.Entries):cap(x.Entries)] {
		if !sameEntry(e, api.Entry{}) {
			t.Errorf("an entry behind the length: %v", e)
		}
	}
	for _, n := range x.Snap.Members[len(x.Snap.Members):cap(x.Snap.Members)] {
		if n != 0 {
			t.Errorf("a member behind the length: %d", n)
		}
	}
	lists := [][]byte{x.Snap.Data}
	for _, e := range x.Entries {
		lists = append(lists, e.Data)
	}
	for _, b := range lists {
		for _, c := range b[len(b):cap(b)] {
			if c != 0 {
				t.Errorf("a byte behind the length: %q", b[:cap(b)])
			}
		}
	}
}
