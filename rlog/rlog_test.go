package rlog

import (
	"bytes"
	"fmt"
	"math"
	"math/rand"
	"slices"
	"testing"

	"plenum/api"
)

// most is the greatest Index of a snapshot that a log may begin with.
const most = uint64(1) << 62

// is holds an error to what it should be.
func is(t *testing.T, what string, got, want api.Errno) {
	t.Helper()
	if got != want {
		t.Errorf("%s: %v, want %v", what, got, want)
	}
}

// sameSnap answers whether two snapshots are the same.
func sameSnap(a, b api.Snap) bool {
	return a.Index == b.Index && a.Term == b.Term && slices.Equal(a.Members, b.Members) && bytes.Equal(a.Data, b.Data)
}

// sameEntries answers whether two lists hold the same entries.
func sameEntries(a, b []api.Entry) bool {
	return slices.EqualFunc(a, b, func(a, b api.Entry) bool {
		return a.Index == b.Index && a.Term == b.Term && a.Kind == b.Kind && bytes.Equal(a.Data, b.Data)
	})
}

// entry answers an entry with some data that tells it from others.
func entry(index, term uint64) api.Entry {
	return api.Entry{Index: index, Term: term, Data: fmt.Appendf(nil, "%d in %d", index, term)}
}

// run answers count entries of a term, from an index on.
func run(from uint64, count int, term uint64) []api.Entry {
	var l []api.Entry
	for i := range count {
		l = append(l, entry(from+uint64(i), term))
	}
	return l
}

// config answers an entry that tells these members.
func config(index, term uint64, members ...uint64) api.Entry {
	return api.Entry{Index: index, Term: term, Kind: api.Config, Data: list(members...)}
}

// number answers a number as chapter 3 says it, by division.
func number(n uint64) []byte {
	b := []byte{byte(n % 128)}
	for n /= 128; n > 0; n /= 128 {
		b = append([]byte{byte(n%128 + 128)}, b...)
	}
	return b
}

// numbers answers numbers one behind the other.
func numbers(l ...uint64) []byte {
	var b []byte
	for _, n := range l {
		b = append(b, number(n)...)
	}
	return b
}

// text answers a text as chapter 3 says it.
func text(b []byte) []byte {
	return append(number(uint64(len(b))), b...)
}

// list answers how many members there are, and each, just as they are given.
func list(members ...uint64) []byte {
	return append(number(uint64(len(members))), numbers(members...)...)
}

// signed answers the number by which one of either sign is written.
func signed(n int64) uint64 {
	if n < 0 {
		return 2*uint64(-(n+1)) + 1
	}
	return 2 * uint64(n)
}

// hardBytes, entryBytes and snapBytes are records as P8.5 says them.
func hardBytes(h api.Hard) []byte {
	return numbers(1, h.Term, h.Vote)
}

func entryBytes(e api.Entry) []byte {
	return append(numbers(2, e.Index, e.Term, signed(int64(e.Kind))), text(e.Data)...)
}

func snapBytes(s api.Snap) []byte {
	return append(append(numbers(3, s.Index, s.Term), text(list(s.Members...))...), text(s.Data)...)
}

// byWords is a log as the chapter's words say it: whatever entries there are by
// their indexes.
type byWords struct {
	snap  api.Snap
	at    map[uint64]api.Entry
	dirty uint64
	fresh bool
}

func ofWords(s api.Snap) *byWords {
	if s.Index > most {
		s.Index = most
	}
	return &byWords{snap: s, at: map[uint64]api.Entry{}}
}

func (w *byWords) last() uint64 {
	i := w.snap.Index
	for {
		if _, ok := w.at[i+1]; !ok {
			return i
		}
		i++
	}
}

func (w *byWords) append(l ...api.Entry) api.Errno {
	if len(l) == 0 {
		return api.OK
	}
	if l[0].Index <= w.snap.Index || l[0].Index > w.last()+1 {
		return api.ErrLog
	}
	for i := 1; i < len(l); i++ {
		if l[i].Index != l[i-1].Index+1 {
			return api.ErrLog
		}
	}
	for i := w.last(); i >= l[0].Index; i-- {
		delete(w.at, i)
	}
	for _, e := range l {
		w.at[e.Index] = e
	}
	if w.dirty == 0 || w.dirty > l[0].Index {
		w.dirty = l[0].Index
	}
	return api.OK
}

func (w *byWords) entries(from uint64, most int) []api.Entry {
	var l []api.Entry
	for i := from; i > w.snap.Index && len(l) < most; i++ {
		e, ok := w.at[i]
		if !ok {
			break
		}
		l = append(l, e)
	}
	return l
}

func (w *byWords) term(i uint64) (uint64, bool) {
	if i == w.snap.Index {
		return w.snap.Term, true
	}
	e, ok := w.at[i]
	return e.Term, ok
}

// members answers what the entries up to one tell.
func (w *byWords) members(upTo uint64) ([]uint64, uint64) {
	for i := upTo; i > w.snap.Index; i-- {
		if l, ok := isList(w.at[i].Data); ok && w.at[i].Kind == api.Config {
			return l, i
		}
	}
	return w.snap.Members, w.snap.Index
}

func (w *byWords) compact(i uint64, data []byte) api.Errno {
	e, ok := w.at[i]
	if !ok {
		return api.ErrRange
	}
	m, _ := w.members(i)
	for k := w.snap.Index + 1; k <= i; k++ {
		delete(w.at, k)
	}
	w.snap = api.Snap{Index: i, Term: e.Term, Members: m, Data: data}
	w.fresh = true
	return api.OK
}

func (w *byWords) clean() {
	w.dirty, w.fresh = 0, false
}

// snapped does what a snapshot among records does.
func (w *byWords) snapped(s api.Snap) {
	n := ofWords(s)
	if t, ok := w.term(n.snap.Index); ok && t == s.Term {
		for i, e := range w.at {
			if i > n.snap.Index {
				n.at[i] = e
			}
		}
	}
	*w = *n
}

// isList answers the members that bytes tell, if they are a list of some: all
// that may be numbers are taken, and the list that they make is put again.
func isList(b []byte) ([]uint64, bool) {
	var all []uint64
	var n uint64
	for _, c := range b {
		n = n*128 + uint64(c%128)
		if c < 128 {
			all = append(all, n)
			n = 0
		}
	}
	if len(all) == 0 || len(all) > 10 || !bytes.Equal(list(all[1:]...), b) {
		return nil, false
	}
	for i, m := range all[1:] {
		if m == 0 || i > 0 && m <= all[i] {
			return nil, false
		}
	}
	return all[1:], true
}

// holds holds all that a log tells to what the words say of it.
func holds(t *testing.T, what string, l *Log, w *byWords) {
	t.Helper()
	if got := l.Snap(); !sameSnap(got, w.snap) {
		t.Fatalf("%s: Snap %v, want %v", what, got, w.snap)
	}
	first, last := w.snap.Index+1, w.last()
	if l.First() != first || l.Last() != last {
		t.Fatalf("%s: First %d, Last %d; want %d, %d", what, l.First(), l.Last(), first, last)
	}
	around := []uint64{0, 1, most - 1, most, most + 1, most + 2, math.MaxUint64 - 1, math.MaxUint64}
	for i := first - 4; i != last+5; i++ {
		around = append(around, i)
	}
	for _, i := range around {
		term, ok := l.Term(i)
		if wantTerm, want := w.term(i); term != wantTerm || ok != want {
			t.Fatalf("%s: Term(%d) %d, %v; want %d, %v", what, i, term, ok, wantTerm, want)
		}
		for _, n := range []int{math.MinInt, -1, 0, 1, 2, int(last - first + 1), int(last-first) + 2, math.MaxInt} {
			if got, want := l.Entries(i, n), w.entries(i, n); !sameEntries(got, want) {
				t.Fatalf("%s: Entries(%d, %d) %v, want %v", what, i, n, got, want)
			}
		}
	}
	m, at := l.Members()
	if want, wantAt := w.members(last); !slices.Equal(m, want) || at != wantAt {
		t.Fatalf("%s: Members %v, %d; want %v, %d", what, m, at, want, wantAt)
	}
	if from, snap := l.Dirty(); from != w.dirty || snap != w.fresh {
		t.Fatalf("%s: Dirty %d, %v; want %d, %v", what, from, snap, w.dirty, w.fresh)
	}
}

// appended appends to both and holds them to each other.
func appended(t *testing.T, what string, l *Log, w *byWords, e ...api.Entry) {
	t.Helper()
	is(t, what, l.Append(e...), w.append(e...))
	holds(t, what, l, w)
}

// some answers a log with four entries behind a snapshot, and its words.
func some(t *testing.T) (*Log, *byWords) {
	t.Helper()
	s := api.Snap{Index: 5, Term: 2, Members: []uint64{1, 2}, Data: []byte("all up to five")}
	l, w := New(s), ofWords(s)
	appended(t, "Append of four", l, w, run(6, 4, 2)...)
	l.Clean()
	w.clean()
	return l, w
}

// P8.1: the chapter's example.
func TestNewOfAnEmptySnapshot(t *testing.T) {
	l := New(api.Snap{})
	if l.First() != 1 || l.Last() != 0 {
		t.Errorf("First %d, Last %d", l.First(), l.Last())
	}
	if term, ok := l.Term(0); term != 0 || !ok {
		t.Errorf("Term(0) %d, %v: the snapshot's Index is 0", term, ok)
	}
	if term, ok := l.Term(1); term != 0 || ok {
		t.Errorf("Term(1) %d, %v", term, ok)
	}
	holds(t, "New of an empty snapshot", l, ofWords(api.Snap{}))
	holds(t, "New of one with empty lists", New(api.Snap{Members: []uint64{}, Data: []byte{}}), ofWords(api.Snap{}))
}

// P8.1: the snapshot is told as it is, and what follows it begins behind it.
func TestNew(t *testing.T) {
	for _, members := range [][]uint64{nil, {1}, {1, 2, 3}, {3, 1, 3, 0}, run64(12)} {
		for _, index := range []uint64{0, 1, 2, 127, 128, 1 << 32, most - 1, most} {
			s := api.Snap{Index: index, Term: index/2 + 7, Members: members, Data: []byte("data")}
			l := New(s)
			if !sameSnap(l.Snap(), s) || l.First() != index+1 || l.Last() != index {
				t.Errorf("New of %v: %v, First %d, Last %d", s, l.Snap(), l.First(), l.Last())
			}
			holds(t, "New", l, ofWords(s))
		}
	}
}

// run64 answers the numbers from 1 up to n.
func run64(n int) []uint64 {
	var l []uint64
	for i := range n {
		l = append(l, uint64(i)+1)
	}
	return l
}

// P8.1: an Index above 2^62 is 2^62, and entries go on behind it.
func TestNewAtTheEdge(t *testing.T) {
	for _, index := range []uint64{most, most + 1, 1 << 63, math.MaxUint64 - 1, math.MaxUint64} {
		s := api.Snap{Index: index, Term: 9, Members: []uint64{4}}
		l := New(s)
		if l.First() != most+1 || l.Last() != most || l.Snap().Index != most {
			t.Errorf("New of %d: First %d, Last %d, Snap %v", index, l.First(), l.Last(), l.Snap())
		}
		if s.Index != index {
			t.Errorf("New changed what it was given: %d", s.Index)
		}
		if term, ok := l.Term(most); term != 9 || !ok {
			t.Errorf("Term(2^62) %d, %v", term, ok)
		}
		if _, at := l.Members(); at != most {
			t.Errorf("Members are told at %d", at)
		}
		w := ofWords(s)
		appended(t, "Append behind 2^62", l, w, run(most+1, 3, 9)...)
		appended(t, "Append at 2^62", l, w, entry(most, 9))
		appended(t, "Append with a gap", l, w, entry(most+5, 9))
		appended(t, "Append at the greatest", l, w, entry(math.MaxUint64, 9))
		is(t, "Compact at 2^62", l.Compact(most, nil), api.ErrRange)
		is(t, "Compact behind 2^62", l.Compact(most+2, []byte("x")), w.compact(most+2, []byte("x")))
		holds(t, "behind Compact", l, w)
	}
}

// P8.2: of no entries nothing is done, whatever is there.
func TestAppendOfNone(t *testing.T) {
	l, w := some(t)
	appended(t, "Append of nothing", l, w)
	appended(t, "Append of none", l, w, nil...)
	appended(t, "Append of an empty list", l, w, []api.Entry{}...)
	if from, snap := l.Dirty(); from != 0 || snap {
		t.Errorf("Dirty %d, %v", from, snap)
	}
}

// P8.2: every first Index with every count, on logs of every length.
func TestAppend(t *testing.T) {
	for _, index := range []uint64{0, 5, most} {
		for there := range 5 {
			for from := index - 3; from != index+uint64(there)+5; from++ {
				for count := range 5 {
					s := api.Snap{Index: index, Term: 1}
					l, w := New(s), ofWords(s)
					appended(t, "Append", l, w, run(index+1, there, 1)...)
					l.Clean()
					w.clean()
					what := fmt.Sprintf("%d entries behind %d, Append of %d from %d on", there, index, count, from)
					appended(t, what, l, w, run(from, count, 2)...)
					appended(t, what+", and again", l, w, run(from, count, 3)...)
				}
			}
		}
	}
}

// P8.2: what stands from the first one on is gone, though fewer take its place.
func TestAppendInTheMiddle(t *testing.T) {
	l, _ := some(t)
	is(t, "Append", l.Append(entry(7, 3)), api.OK)
	want := []api.Entry{entry(6, 2), entry(7, 3)}
	if got := l.Entries(6, 100); l.Last() != 7 || !sameEntries(got, want) {
		t.Errorf("Last %d, Entries %v", l.Last(), got)
	}
	is(t, "Append at First", l.Append(entry(6, 4)), api.OK)
	if got := l.Entries(6, 100); l.Last() != 6 || !sameEntries(got, []api.Entry{entry(6, 4)}) {
		t.Errorf("Last %d, Entries %v", l.Last(), got)
	}
}

// P8.2: Indexes that aren't one behind the other leave all as it is.
func TestAppendOfIndexesThatDontFit(t *testing.T) {
	for _, indexes := range [][]uint64{
		{6, 8}, {6, 7, 9}, {6, 6}, {7, 6}, {10, 12}, {10, 10}, {10, 9}, {8, 9, 10, 11, 13}, {6, 7, 8, 7},
		{5}, {5, 6}, {4, 5, 6}, {0}, {0, 1}, {11}, {11, 12}, {100},
		{math.MaxUint64}, {math.MaxUint64, 0}, {math.MaxUint64 - 1, math.MaxUint64, 0, 1}, {6, math.MaxUint64}, {10, 0}, {0, math.MaxUint64}, {1<<63 + 6},
	} {
		l, w := some(t)
		var e []api.Entry
		for _, i := range indexes {
			e = append(e, entry(i, 5))
		}
		what := fmt.Sprintf("Append of %v", indexes)
		is(t, what, l.Append(e...), api.ErrLog)
		holds(t, what, l, w)
	}
}

// P8.2: terms and kinds may be any, and data of any length.
func TestAppendOfAnyEntry(t *testing.T) {
	l, w := New(api.Snap{}), ofWords(api.Snap{})
	for i, kind := range []int{api.Normal, api.Config, 2, -1, math.MaxInt, math.MinInt} {
		e := api.Entry{Index: uint64(i) + 1, Term: math.MaxUint64 - uint64(i), Kind: kind, Data: make([]byte, i*5000)}
		appended(t, "Append", l, w, e)
	}
}

// P8.2: at most so many, from every index on.
func TestEntries(t *testing.T) {
	l, _ := some(t)
	all := run(6, 4, 2)
	for from := uint64(0); from < 12; from++ {
		for n := -2; n < 8; n++ {
			var want []api.Entry
			if from >= 6 && from <= 9 && n >= 1 {
				want = all[from-6 : min(int(from)-6+n, 4)]
			}
			if got := l.Entries(from, n); !sameEntries(got, want) {
				t.Errorf("Entries(%d, %d): %v, want %v", from, n, got, want)
			}
		}
	}
	if got := New(api.Snap{Index: 3}).Entries(4, 1); len(got) != 0 {
		t.Errorf("Entries where there are none: %v", got)
	}
}

// noLists are bytes that are no list of members.
func noLists() [][]byte {
	return [][]byte{
		nil, {}, {1}, {2}, {2, 1}, {0, 0}, {0, 1}, {1, 1, 1}, {1, 0}, {2, 0, 1}, {2, 1, 1}, {2, 2, 1}, {3, 1, 3, 2}, {3, 1, 2, 2},
		{0x80}, {0x80, 0}, {1, 0x80}, {1, 0x80, 1}, {0x81}, {0x81, 0}, {10}, {0xff}, list(run64(10)...), list(run64(200)...),
		append(list(1, 2), 0), list(5, 6)[1:], list(1, 2)[:2], []byte("no list"), bytes.Repeat([]byte{0xff}, 12),
		append([]byte{1}, append(bytes.Repeat([]byte{0xff}, 9), 0x7f)...),
		append([]byte{1, 0x82}, append(bytes.Repeat([]byte{0x80}, 8), 0)...),
		append([]byte{1, 0x80}, number(1<<32)...),
	}
}

// P8.3: without an entry that tells members they are the snapshot's.
func TestMembersOfTheSnapshot(t *testing.T) {
	for _, members := range [][]uint64{nil, {7}, {1, 2, 3}, {5, 4, 4, 0}} {
		l := New(api.Snap{Index: 3, Term: 1, Members: members})
		for range 3 {
			if m, at := l.Members(); !slices.Equal(m, members) || at != 3 {
				t.Errorf("Members %v, %d; want %v, 3", m, at, members)
			}
			is(t, "Append", l.Append(entry(l.Last()+1, 1), api.Entry{Index: l.Last() + 2, Data: list(9)}), api.OK)
		}
	}
}

// P8.3: Config alone tells them, and a list of members alone.
func TestMembersOfWhatTellsNone(t *testing.T) {
	for _, b := range noLists() {
		l := New(api.Snap{Index: 3, Members: []uint64{8}})
		is(t, "Append", l.Append(api.Entry{Index: 4, Kind: api.Config, Data: b}), api.OK)
		if m, at := l.Members(); !slices.Equal(m, []uint64{8}) || at != 3 {
			t.Errorf("Members behind a Config of %v: %v, %d", b, m, at)
		}
		is(t, "Append", l.Append(config(5, 1, 1, 2), api.Entry{Index: 6, Kind: api.Config, Data: b}), api.OK)
		if m, at := l.Members(); !slices.Equal(m, []uint64{1, 2}) || at != 5 {
			t.Errorf("Members behind one that tells some and a Config of %v: %v, %d", b, m, at)
		}
	}
	for _, kind := range []int{api.Normal, 2, -1, math.MinInt, math.MaxInt} {
		l := New(api.Snap{Index: 3, Members: []uint64{8}})
		is(t, "Append", l.Append(api.Entry{Index: 4, Kind: kind, Data: list(1, 2)}), api.OK)
		if m, at := l.Members(); !slices.Equal(m, []uint64{8}) || at != 3 {
			t.Errorf("Members behind an entry of Kind %d: %v, %d", kind, m, at)
		}
	}
}

// P8.3: the last of several tells them, while it stands there.
func TestMembersOfSeveral(t *testing.T) {
	s := api.Snap{Index: 3, Members: []uint64{8}}
	l, w := New(s), ofWords(s)
	appended(t, "Append", l, w, entry(4, 1), config(5, 1, 1, 2), entry(6, 1), config(7, 1, run64(9)...), entry(8, 1))
	if m, at := l.Members(); !slices.Equal(m, run64(9)) || at != 7 {
		t.Errorf("Members %v, %d", m, at)
	}
	appended(t, "Append", l, w, config(9, 1))
	if m, at := l.Members(); len(m) != 0 || at != 9 {
		t.Errorf("Members behind a list of none: %v, %d", m, at)
	}
	appended(t, "Append", l, w, entry(7, 2))
	if m, at := l.Members(); !slices.Equal(m, []uint64{1, 2}) || at != 5 {
		t.Errorf("Members, the last list being gone: %v, %d", m, at)
	}
	appended(t, "Append", l, w, entry(4, 3))
	if m, at := l.Members(); !slices.Equal(m, []uint64{8}) || at != 3 {
		t.Errorf("Members, all lists being gone: %v, %d", m, at)
	}
}

// P8.3: at every index, with and without entries that tell members.
func TestCompact(t *testing.T) {
	kinds := [][]api.Entry{
		run(6, 4, 2),
		{entry(6, 2), config(7, 3, 1, 2, 3), entry(8, 4), config(9, 5, 9)},
		{config(6, 2, 4), config(7, 2), {Index: 8, Kind: api.Config, Data: []byte("no list")}, entry(9, 2)},
	}
	for _, e := range kinds {
		for i := uint64(0); i < 13; i++ {
			for _, data := range [][]byte{nil, {}, {0}, []byte("data")} {
				s := api.Snap{Index: 5, Term: 1, Members: []uint64{2, 7}, Data: []byte("old")}
				l, w := New(s), ofWords(s)
				appended(t, "Append", l, w, e...)
				l.Clean()
				w.clean()
				what := fmt.Sprintf("Compact(%d)", i)
				is(t, what, l.Compact(i, data), w.compact(i, data))
				holds(t, what, l, w)
				is(t, what+" again", l.Compact(i, data), api.ErrRange)
				appended(t, what+" and Append", l, w, entry(l.Last()+1, 6))
				is(t, what+" and Compact(9)", l.Compact(9, data), w.compact(9, data))
				holds(t, what+" and Compact(9)", l, w)
			}
		}
	}
}

// P8.3: known snapshots: the index, the entry's term, the members up to it, the
// data.
func TestCompactTells(t *testing.T) {
	e := []api.Entry{entry(6, 2), config(7, 3, 1, 2, 3), entry(8, 4), config(9, 5, 9)}
	wants := []api.Snap{
		{Index: 6, Term: 2, Members: []uint64{2, 7}, Data: []byte("new")},
		{Index: 7, Term: 3, Members: []uint64{1, 2, 3}, Data: []byte("new")},
		{Index: 8, Term: 4, Members: []uint64{1, 2, 3}, Data: []byte("new")},
		{Index: 9, Term: 5, Members: []uint64{9}, Data: []byte("new")},
	}
	for i, want := range wants {
		l := New(api.Snap{Index: 5, Term: 1, Members: []uint64{2, 7}, Data: []byte("old")})
		is(t, "Append", l.Append(e...), api.OK)
		is(t, "Compact", l.Compact(want.Index, []byte("new")), api.OK)
		if got := l.Snap(); !sameSnap(got, want) {
			t.Errorf("Compact(%d): %v, want %v", want.Index, got, want)
		}
		if got := l.Entries(want.Index+1, 100); l.Last() != 9 || !sameEntries(got, e[i+1:]) {
			t.Errorf("Compact(%d) leaves %v", want.Index, got)
		}
	}
}

// P8.3: wherever there is no entry.
func TestCompactWhereThereIsNone(t *testing.T) {
	for _, i := range []uint64{0, 1, 4, 5, 10, 11, most, most + 1, 1 << 63, math.MaxUint64} {
		l, w := some(t)
		is(t, "Compact", l.Compact(i, []byte("data")), api.ErrRange)
		holds(t, fmt.Sprintf("Compact(%d)", i), l, w)
	}
	l := New(api.Snap{})
	for _, i := range []uint64{0, 1, 2, math.MaxUint64} {
		is(t, "Compact of an empty log", l.Compact(i, nil), api.ErrRange)
	}
}

// dirty holds a log's Dirty to what it should be.
func dirty(t *testing.T, what string, l *Log, from uint64, snap bool) {
	t.Helper()
	if gotFrom, gotSnap := l.Dirty(); gotFrom != from || gotSnap != snap {
		t.Errorf("Dirty %s: %d, %v; want %d, %v", what, gotFrom, gotSnap, from, snap)
	}
}

// P8.4: the least index that was appended at, whatever came behind it.
func TestDirty(t *testing.T) {
	l := New(api.Snap{Index: 5, Term: 1, Members: []uint64{1}, Data: []byte("x")})
	dirty(t, "of a new log", l, 0, false)
	is(t, "Append", l.Append(run(6, 3, 1)...), api.OK)
	dirty(t, "behind three", l, 6, false)
	is(t, "Append", l.Append(entry(9, 1)), api.OK)
	dirty(t, "behind one more", l, 6, false)
	l.Clean()
	dirty(t, "behind Clean", l, 0, false)
	is(t, "Append", l.Append(entry(10, 1)), api.OK)
	dirty(t, "behind a fifth", l, 10, false)
	is(t, "Append", l.Append(entry(8, 2)), api.OK)
	dirty(t, "behind one in the middle", l, 8, false)
	is(t, "Append", l.Append(entry(9, 2)), api.OK)
	dirty(t, "behind one behind it", l, 8, false)
	is(t, "Append", l.Append(entry(6, 3)), api.OK)
	dirty(t, "behind the first again", l, 6, false)
	is(t, "Append", l.Append(entry(20, 3)), api.ErrLog)
	is(t, "Append", l.Append(entry(5, 3)), api.ErrLog)
	is(t, "Append", l.Append(), api.OK)
	dirty(t, "behind what was refused, and nothing", l, 6, false)
	l.Clean()
	is(t, "Append", l.Append(entry(20, 3)), api.ErrLog)
	is(t, "Compact", l.Compact(20, nil), api.ErrRange)
	l.Entries(6, 1)
	l.Members()
	l.Snap()
	dirty(t, "behind Clean, and what is refused or only told", l, 0, false)
}

// P8.4: a new snapshot is one till Clean, and takes nothing from what was
// appended.
func TestDirtySnapshot(t *testing.T) {
	l := New(api.Snap{})
	is(t, "Append", l.Append(run(1, 6, 1)...), api.OK)
	l.Clean()
	is(t, "Compact", l.Compact(2, nil), api.OK)
	dirty(t, "behind Compact", l, 0, true)
	is(t, "Append", l.Append(entry(5, 2)), api.OK)
	dirty(t, "behind both", l, 5, true)
	is(t, "Compact", l.Compact(3, nil), api.OK)
	dirty(t, "behind one more Compact", l, 5, true)
	l.Clean()
	dirty(t, "behind Clean", l, 0, false)
	l.Clean()
	dirty(t, "behind Clean twice", l, 0, false)
	is(t, "Append", l.Append(run(6, 2, 2)...), api.OK)
	is(t, "Compact", l.Compact(7, nil), api.OK)
	dirty(t, "behind Compact of what is new", l, 6, true)
}

// unmade holds a log that nobody made to an empty one, at every call that
// changes nothing.
func unmade(t *testing.T, what string, l *Log) {
	t.Helper()
	w := ofWords(api.Snap{})
	holds(t, what, l, w)
	for _, i := range []uint64{0, 1, 2, math.MaxUint64} {
		is(t, what+": Compact", l.Compact(i, []byte("x")), api.ErrRange)
	}
	is(t, what+": Append of none", l.Append(), api.OK)
	for _, i := range []uint64{0, 2, 3, most, math.MaxUint64} {
		is(t, what+": Append that leaves a gap", l.Append(entry(i, 1)), api.ErrLog)
	}
	is(t, what+": Append with a gap", l.Append(entry(1, 1), entry(3, 1)), api.ErrLog)
	l.Clean()
	holds(t, what, l, w)
}

// P8.4: the zero Log is as one of an empty snapshot, and goes on so.
func TestZeroLog(t *testing.T) {
	l, w := &Log{}, ofWords(api.Snap{})
	unmade(t, "a zero Log", l)
	appended(t, "a zero Log, Append", l, w, run(1, 4, 1)...)
	is(t, "a zero Log, Compact", l.Compact(2, []byte("x")), w.compact(2, []byte("x")))
	holds(t, "a zero Log, behind Compact", l, w)
	l.Clean()
	w.clean()
	holds(t, "a zero Log, behind Clean", l, w)
}

// P8.4: a nil one is empty whatever it is asked.
func TestNilLog(t *testing.T) {
	var l *Log
	unmade(t, "a nil Log", l)
	is(t, "a nil Log, Append", l.Append(run(1, 2, 1)...), api.OK)
	unmade(t, "a nil Log behind Append", l)
}

// drawn answers an entry of any kind.
func drawn(r *rand.Rand, index uint64) api.Entry {
	switch r.Intn(6) {
	case 0:
		return config(index, uint64(r.Intn(3)), run64(r.Intn(11))...)
	case 1:
		return api.Entry{Index: index, Term: uint64(r.Intn(3)), Kind: api.Config, Data: noLists()[r.Intn(len(noLists()))]}
	}
	return entry(index, uint64(r.Intn(3)))
}

// P8.1 to P8.4: long runs of calls against the words.
func TestDrawnRuns(t *testing.T) {
	for seed := range int64(60) {
		r := rand.New(rand.NewSource(seed))
		s := api.Snap{Index: []uint64{0, 1, 100, most, math.MaxUint64}[r.Intn(5)], Term: 1, Members: run64(r.Intn(4))}
		l, w := New(s), ofWords(s)
		for step := range 120 {
			i := w.snap.Index + uint64(r.Intn(len(w.at)+4)) - 1
			what := fmt.Sprintf("seed %d, step %d", seed, step)
			switch k := r.Intn(10); {
			case k < 7:
				var e []api.Entry
				for n := range r.Intn(4) {
					e = append(e, drawn(r, i+uint64(n)+uint64(r.Intn(20)/19)))
				}
				is(t, what+", Append", l.Append(e...), w.append(e...))
			case k < 9:
				data := fmt.Appendf(nil, "step %d", step)
				is(t, what+", Compact", l.Compact(i, data), w.compact(i, data))
			default:
				l.Clean()
				w.clean()
			}
			holds(t, what, l, w)
		}
	}
}

// P2: what was handed in is neither changed nor kept.
func TestNothingHandedInIsShared(t *testing.T) {
	members, data := make([]uint64, 2, 4), make([]byte, 2, 4)
	copy(members, []uint64{3, 5})
	copy(data, "ab")
	s := api.Snap{Index: 2, Term: 1, Members: members, Data: data}
	want := api.Snap{Index: 2, Term: 1, Members: []uint64{3, 5}, Data: []byte("ab")}
	l := New(s)
	e := make([]api.Entry, 2, 4)
	e[0] = api.Entry{Index: 3, Term: 1, Data: data}
	e[1] = config(4, 1, 1, 2)
	is(t, "Append", l.Append(e...), api.OK)
	wantEntries := []api.Entry{{Index: 3, Term: 1, Data: []byte("ab")}, config(4, 1, 1, 2)}
	if !slices.Equal(members[:4], []uint64{3, 5, 0, 0}) || !bytes.Equal(data[:4], []byte("ab\x00\x00")) || !sameEntries(e, wantEntries) || !sameEntries(e[:4][2:], make([]api.Entry, 2)) {
		t.Error("something handed in was changed")
	}
	members[0], data[0] = 99, 'z'
	e[1].Data[1] = 99
	e[0].Index, e[0].Term = 77, 77
	if got := l.Snap(); !sameSnap(got, want) {
		t.Errorf("the snapshot changed: %v", got)
	}
	if got := l.Entries(3, 9); !sameEntries(got, wantEntries) {
		t.Errorf("the entries changed: %v", got)
	}
	data[0] = 'c'
	is(t, "Compact", l.Compact(4, data), api.OK)
	data[0] = 'z'
	if got := l.Snap(); string(got.Data) != "cb" || !slices.Equal(got.Members, []uint64{1, 2}) {
		t.Errorf("the snapshot changed behind Compact: %v", got)
	}
}

// spoil changes all that a snapshot and entries hold, and writes behind it.
func spoil(s api.Snap, l []api.Entry) {
	for i := range s.Members {
		s.Members[i] = 99
	}
	for i := range s.Data {
		s.Data[i] = 'z'
	}
	_ = append(s.Members, 98)
	_ = append(s.Data, 'y')
	for i := range l {
		spoil(api.Snap{Data: l[i].Data}, nil)
		l[i] = api.Entry{Index: 1, Kind: 9}
	}
	_ = append(l, entry(3, 3))
}

// P2: nothing that is handed out shares memory with the log or another answer.
func TestNothingHandedOutIsShared(t *testing.T) {
	s := api.Snap{Index: 5, Term: 2, Members: []uint64{1, 2}, Data: []byte("all")}
	l, w := New(s), ofWords(s)
	appended(t, "Append", l, w, append(run(6, 4, 2), config(10, 2, 4, 5), entry(11, 2))...)
	for range 3 {
		one, other := l.Entries(6, 3), l.Entries(6, 100)
		spoil(l.Snap(), one)
		if !sameEntries(other, w.entries(6, 100)) {
			t.Error("two answers of Entries share memory")
		}
		spoil(api.Snap{}, other)
		m, _ := l.Members()
		spoil(api.Snap{Members: m}, nil)
		holds(t, "behind changes of what was told", l, w)
		is(t, "Compact", l.Compact(l.First(), []byte("up to it")), w.compact(w.snap.Index+1, []byte("up to it")))
		holds(t, "behind Compact", l, w)
	}
	old := New(s)
	m, _ := old.Members()
	spoil(api.Snap{Members: m}, nil)
	if !sameSnap(old.Snap(), s) {
		t.Error("Members shares memory with the snapshot")
	}
}

// P2: an answer stays what it was whatever becomes of the log.
func TestAnswersStay(t *testing.T) {
	l, w := some(t)
	snap, entries := l.Snap(), l.Entries(6, 3)
	members, _ := l.Members()
	want := w.entries(6, 3)
	is(t, "Append", l.Append(run(7, 5, 8)...), api.OK)
	is(t, "Append", l.Append(config(7, 9, 6)), api.OK)
	is(t, "Compact", l.Compact(7, []byte("else")), api.OK)
	if !sameEntries(entries, want) || !sameSnap(snap, w.snap) || !slices.Equal(members, []uint64{1, 2}) {
		t.Error("an answer changed with the log")
	}
}
