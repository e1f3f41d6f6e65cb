package rlog

import (
	"bytes"
	"fmt"
	"math"
	"math/rand"
	"slices"
	"testing"

	"plenum/api"
)

// edges are numbers at which a byte more is needed, and the greatest.
func edges() []uint64 {
	l := []uint64{0, 1, 2, most - 1, most, most + 1, math.MaxUint64 - 1, math.MaxUint64}
	for bits := 7; bits < 64; bits += 7 {
		l = append(l, 1<<bits-1, 1<<bits)
	}
	return l
}

// P8.5: sorted, each once, the first nine, how many ahead.
func TestPutMembers(t *testing.T) {
	for _, c := range []struct{ put, want []uint64 }{
		{nil, nil},
		{[]uint64{}, nil},
		{[]uint64{7}, []uint64{7}},
		{[]uint64{3, 1, 2}, []uint64{1, 2, 3}},
		{[]uint64{3, 1, 3}, []uint64{1, 3}},
		{[]uint64{5, 5, 5, 5, 5, 5, 5, 5, 5, 5, 5, 5}, []uint64{5}},
		{run64(9), run64(9)},
		{run64(10), run64(9)},
		{[]uint64{20, 19, 18, 17, 16, 15, 14, 13, 12, 11}, []uint64{11, 12, 13, 14, 15, 16, 17, 18, 19}},
		{[]uint64{9, 9, 8, 8, 7, 6, 5, 4, 3, 2, 1}, run64(9)},
		{[]uint64{0}, []uint64{0}},
		{[]uint64{2, 0, 1, 0}, []uint64{0, 1, 2}},
		{[]uint64{math.MaxUint64, 128, 127}, []uint64{127, 128, math.MaxUint64}},
	} {
		given := slices.Clone(c.put)
		if got, want := PutMembers(c.put), list(c.want...); !bytes.Equal(got, want) {
			t.Errorf("PutMembers of %v: %v, want %v", c.put, got, want)
		}
		if !slices.Equal(given, c.put) {
			t.Errorf("PutMembers changed what it was given: %v", c.put)
		}
	}
	if got := PutMembers([]uint64{1, 300}); !bytes.Equal(got, []byte{2, 1, 0x82, 0x2c}) {
		t.Errorf("PutMembers of 1 and 300: %x", got)
	}
}

// P8.5, P8.7: lists that may be come back.
func TestOfMembers(t *testing.T) {
	rising := edges()[1:]
	slices.Sort(rising)
	rising = slices.Compact(rising)
	for from := range len(rising) {
		for count := range min(10, len(rising)-from+1) {
			want := rising[from : from+count]
			got, e := OfMembers(list(want...))
			if e != api.OK || !slices.Equal(got, want) {
				t.Errorf("OfMembers of %v: %v, %v", want, got, e)
			}
			got, e = OfMembers(PutMembers(want))
			if e != api.OK || !slices.Equal(got, want) {
				t.Errorf("OfMembers of PutMembers of %v: %v, %v", want, got, e)
			}
		}
	}
}

// P8.5: what is no list, a list with 0 among it.
func TestOfMembersThatAreNone(t *testing.T) {
	for _, b := range append(noLists(), PutMembers([]uint64{0}), PutMembers([]uint64{0, 1, 2})) {
		given := bytes.Clone(b)
		if l, e := OfMembers(b); e != api.ErrRow || len(l) != 0 {
			t.Errorf("OfMembers of %v: %v, %v", b, l, e)
		}
		if !bytes.Equal(b, given) {
			t.Errorf("OfMembers changed what it was given: %v", b)
		}
	}
}

// P8.5: every run of one and of two bytes, and of three behind the counts around
// the edges, is a list just if a list is put so.
func TestOfMembersOfShortBytes(t *testing.T) {
	lists := map[string][]uint64{"\x00": nil}
	for a := uint64(1); a < 1<<14; a++ {
		lists[string(list(a))] = []uint64{a}
	}
	for b := uint64(2); b < 128; b++ {
		for a := uint64(1); a < b; a++ {
			lists[string(list(a, b))] = []uint64{a, b}
		}
	}
	try := func(b ...byte) {
		want, ok := lists[string(b)]
		l, e := OfMembers(b)
		if ok != (e == api.OK) || !slices.Equal(l, want) {
			t.Fatalf("OfMembers of %x: %v, %v; want %v", b, l, e, want)
		}
	}
	firsts := []byte{0, 1, 2, 3, 4, 8, 9, 10, 11, 127, 128, 129, 130, 255}
	for a := range 256 {
		try(byte(a))
		for b := range 256 {
			try(byte(a), byte(b))
			for _, first := range firsts {
				try(first, byte(a), byte(b))
			}
		}
	}
}

// hards, anyEntries and snaps are what may be put.
func hards() []api.Hard {
	var l []api.Hard
	for _, term := range edges() {
		for _, vote := range []uint64{0, 1, 9, 127, 128, math.MaxUint64} {
			l = append(l, api.Hard{Term: term, Vote: vote})
		}
	}
	return l
}

func anyEntries() []api.Entry {
	var l []api.Entry
	for _, index := range edges() {
		for _, kind := range []int{api.Normal, api.Config, 2, -1, 63, 64, -64, -65, math.MaxInt, math.MinInt} {
			for _, size := range []int{0, 1, 127, 128, 5000} {
				l = append(l, api.Entry{Index: index, Term: index ^ 5, Kind: kind, Data: bytes.Repeat([]byte{byte(kind)}, size)})
			}
		}
	}
	return l
}

func snaps() []api.Snap {
	var l []api.Snap
	for _, index := range edges() {
		for _, members := range [][]uint64{nil, {1}, {1, 2, 300, math.MaxUint64}, run64(9)} {
			for _, size := range []int{0, 1, 127, 128, 70000} {
				l = append(l, api.Snap{Index: index, Term: ^index, Members: members, Data: bytes.Repeat([]byte{7}, size)})
			}
		}
	}
	return l
}

// P8.5: the bytes of each kind of record.
func TestPutRecords(t *testing.T) {
	for _, h := range hards() {
		if got, want := PutHard(h), hardBytes(h); !bytes.Equal(got, want) {
			t.Fatalf("PutHard of %v: %x, want %x", h, got, want)
		}
	}
	for _, e := range anyEntries() {
		if got, want := PutEntry(e), entryBytes(e); !bytes.Equal(got, want) {
			t.Fatalf("PutEntry of %d, %d, %d: %x, want %x", e.Index, e.Term, e.Kind, got, want)
		}
	}
	for _, s := range snaps() {
		if got, want := PutSnap(s), snapBytes(s); !bytes.Equal(got, want) {
			t.Fatalf("PutSnap of %d, %d, %v: %x, want %x", s.Index, s.Term, s.Members, got, want)
		}
	}
}

// P8.5: known bytes.
func TestPutKnownRecords(t *testing.T) {
	for _, c := range []struct {
		what string
		got  []byte
		want string
	}{
		{"an empty hard state", PutHard(api.Hard{}), "010000"},
		{"a hard state", PutHard(api.Hard{Term: 300, Vote: 2}), "01822c02"},
		{"an empty entry", PutEntry(api.Entry{}), "0200000000"},
		{"an entry", PutEntry(api.Entry{Index: 1, Term: 128, Kind: api.Config, Data: []byte("ab")}), "0201810002026162"},
		{"an entry of another kind", PutEntry(api.Entry{Index: 1, Term: 2, Kind: -1}), "0201020100"},
		{"an empty snapshot", PutSnap(api.Snap{}), "030000010000"},
		{"a snapshot", PutSnap(api.Snap{Index: 5, Term: 4, Members: []uint64{3, 1, 3}, Data: []byte("s")}), "03050403020103" + "0173"},
	} {
		if got := fmt.Sprintf("%x", c.got); got != c.want {
			t.Errorf("%s: %s, want %s", c.what, got, c.want)
		}
	}
}

// P8.5: a snapshot's members are put as a list of members is.
func TestPutSnapOfAnyMembers(t *testing.T) {
	for _, c := range []struct{ put, want []uint64 }{
		{[]uint64{4, 2, 4, 3}, []uint64{2, 3, 4}},
		{run64(12), run64(9)},
		{[]uint64{1, 0}, []uint64{0, 1}},
	} {
		given := slices.Clone(c.put)
		got := PutSnap(api.Snap{Index: 1, Term: 2, Members: c.put, Data: []byte("d")})
		if want := snapBytes(api.Snap{Index: 1, Term: 2, Members: c.want, Data: []byte("d")}); !bytes.Equal(got, want) {
			t.Errorf("PutSnap with members %v: %x, want %x", c.put, got, want)
		}
		if !slices.Equal(given, c.put) {
			t.Errorf("PutSnap changed what it was given: %v", c.put)
		}
	}
}

// replayed replays records that may be, and holds the log to the words.
func replayed(t *testing.T, what string, l [][]byte, h api.Hard, w *byWords) *Log {
	t.Helper()
	got, log, e := Replay(l)
	if e != api.OK || log == nil || got != h {
		t.Fatalf("Replay of %s: %v, %v; want %v", what, got, e, h)
	}
	w.clean()
	holds(t, "Replay of "+what, log, w)
	return log
}

// refused replays records that may not be.
func refused(t *testing.T, what string, l [][]byte, want api.Errno) {
	t.Helper()
	h, log, e := Replay(l)
	if e != want || log != nil || h != (api.Hard{}) {
		t.Errorf("Replay of %s: %v, %v, %v; want %v alone", what, h, log, e, want)
	}
}

// P8.6: no records, and none but hard states: the latest one counts.
func TestReplayOfHardStates(t *testing.T) {
	empty := ofWords(api.Snap{})
	replayed(t, "nothing", nil, api.Hard{}, empty)
	replayed(t, "no records", [][]byte{}, api.Hard{}, empty)
	for _, h := range hards() {
		replayed(t, "a hard state", [][]byte{PutHard(h)}, h, empty)
		replayed(t, "two hard states", [][]byte{PutHard(api.Hard{Term: 5, Vote: 6}), PutHard(h)}, h, empty)
	}
	replayed(t, "three", [][]byte{PutHard(api.Hard{Term: 9, Vote: 9}), PutHard(api.Hard{Term: 8}), PutHard(api.Hard{})}, api.Hard{}, empty)
}

// P8.6, P8.7: entries are appended, and are what they were.
func TestReplayOfEntries(t *testing.T) {
	w := ofWords(api.Snap{})
	var l [][]byte
	add := func(e api.Entry) {
		l = append(l, PutEntry(e))
		if bad := w.append(e); bad != api.OK {
			t.Fatalf("no entry to add: %v", e)
		}
		replayed(t, "entries", l, api.Hard{}, w)
	}
	for i, kind := range []int{api.Normal, api.Config, 2, -1, math.MaxInt, math.MinInt} {
		add(api.Entry{Index: uint64(i) + 1, Term: math.MaxUint64 - uint64(i), Kind: kind, Data: bytes.Repeat([]byte{1}, 40*i)})
	}
	add(config(7, 3, 1, 2))
	add(entry(8, 3))
	add(entry(8, 4))
	add(entry(5, 5))
	add(config(1, 6, 7))
}

// P8.6: an entry that can't be appended.
func TestReplayOfEntriesThatDontFit(t *testing.T) {
	snap := PutSnap(api.Snap{Index: 5, Term: 1})
	for _, i := range []uint64{0, 1, 4, 5, 8, 9, math.MaxUint64} {
		refused(t, "an entry that doesn't fit", [][]byte{PutHard(api.Hard{Term: 1}), snap, PutEntry(entry(6, 1)), PutEntry(entry(i, 1))}, api.ErrLog)
	}
	refused(t, "an entry alone", [][]byte{PutEntry(entry(4, 1))}, api.ErrLog)
	refused(t, "an entry 0", [][]byte{PutEntry(api.Entry{})}, api.ErrLog)
	refused(t, "what doesn't fit, ahead of no record", [][]byte{PutEntry(entry(2, 1)), {9}}, api.ErrLog)
	refused(t, "no record, ahead of what doesn't fit", [][]byte{{9}, PutEntry(entry(2, 1))}, api.ErrRow)
	refused(t, "what doesn't fit, though what fits follows", [][]byte{PutEntry(entry(2, 1)), PutEntry(entry(1, 1))}, api.ErrLog)
}

// noRecords are bytes that are none of the three kinds of records.
func noRecords() [][]byte {
	l := [][]byte{nil, {}, {0}, {1}, {2}, {3}, {4}, {9}, {0x80}, {0x81}, {0xff}, []byte("no record"), {0, 0, 0}, {4, 0, 0}, {0x80, 1, 0, 0}, {0x83, 0, 0, 1, 0, 0}}
	whole := [][]byte{
		PutHard(api.Hard{Term: 300, Vote: 2}),
		PutEntry(api.Entry{Index: 1, Term: 300, Kind: api.Config, Data: []byte("data")}),
		PutSnap(api.Snap{Index: 1, Term: 300, Members: []uint64{1, 300}, Data: []byte("data")}),
	}
	for _, b := range whole {
		for cut := range b {
			l = append(l, b[:cut])
		}
		l = append(l, append(bytes.Clone(b), 0), append(bytes.Clone(b), b...), append([]byte{0}, b...))
		for _, kind := range []byte{0, 4, 5, 127, 128, 255} {
			l = append(l, append([]byte{kind}, b[1:]...))
		}
	}
	for _, b := range noLists() {
		l = append(l, append(append(numbers(3, 5, 1), text(b)...), text([]byte("data"))...))
	}
	l = append(l, PutSnap(api.Snap{Index: 1, Members: []uint64{0, 1}}))
	l = append(l, append(numbers(2, 1, 1, 0, math.MaxUint64), 'a'), append(numbers(2, 1, 1, 0, 1<<63), 'a'), append(numbers(2, 1, 1, 0, 2), 'a'))
	l = append(l, append(numbers(3, 1, 1, math.MaxUint64), 0, 0), append(numbers(3, 1, 1, 1), 0, 2, 1))
	return l
}

// P8.6: what is none of the three, alone, behind and ahead of others.
func TestReplayOfNoRecords(t *testing.T) {
	for _, b := range noRecords() {
		what := fmt.Sprintf("%x", b)
		refused(t, what, [][]byte{b}, api.ErrRow)
		refused(t, what+" behind others", [][]byte{PutHard(api.Hard{Term: 1}), PutSnap(api.Snap{Index: 1}), PutEntry(entry(2, 1)), b}, api.ErrRow)
		refused(t, what+" ahead of others", [][]byte{b, PutHard(api.Hard{Term: 1}), PutEntry(entry(1, 1))}, api.ErrRow)
	}
}

// P8.6, P8.7: a snapshot alone is what it was, and the log's beginning.
func TestReplayOfASnapshot(t *testing.T) {
	for _, s := range snaps() {
		log := replayed(t, "a snapshot", [][]byte{PutSnap(s)}, api.Hard{}, ofWords(s))
		if s.Index <= most && !sameSnap(log.Snap(), s) {
			t.Errorf("another snapshot comes back: %d, %d, %v", log.Snap().Index, log.Snap().Term, log.Snap().Members)
		}
	}
	log := replayed(t, "a snapshot of members that aren't sorted", [][]byte{PutSnap(api.Snap{Index: 4, Members: []uint64{3, 1, 3}})}, api.Hard{}, ofWords(api.Snap{Index: 4, Members: []uint64{1, 3}}))
	is(t, "Append behind it", log.Append(entry(5, 1)), api.OK)
}

// P8.6: a snapshot among entries: what stands behind the one that it meets
// stays, and nothing else.
func TestReplayOfASnapshotAmongEntries(t *testing.T) {
	first := api.Snap{Index: 3, Term: 2, Members: []uint64{1}, Data: []byte("first")}
	there := []api.Entry{entry(4, 2), config(5, 3, 1, 2), entry(6, 3), entry(7, 4)}
	terms := map[uint64]uint64{3: 2, 4: 2, 5: 3, 6: 3, 7: 4}
	records := [][]byte{PutSnap(first)}
	for _, e := range there {
		records = append(records, PutEntry(e))
	}
	for index := uint64(0); index < 11; index++ {
		for term := uint64(0); term < 6; term++ {
			s := api.Snap{Index: index, Term: term, Members: []uint64{8}, Data: []byte("second")}
			h, log, e := Replay(append(slices.Clone(records), PutSnap(s)))
			if e != api.OK || h != (api.Hard{}) || !sameSnap(log.Snap(), s) {
				t.Fatalf("a snapshot of %d, %d: %v", index, term, e)
			}
			var want []api.Entry
			if has, ok := terms[index]; ok && has == term {
				want = there[index-3:]
			}
			if got := log.Entries(index+1, 100); !sameEntries(got, want) || log.Last() != index+uint64(len(want)) {
				t.Errorf("behind a snapshot of %d, %d stays %v, want %v", index, term, got, want)
			}
			dirty(t, "behind Replay", log, 0, false)
		}
	}
}

// P8.6: an empty log's own snapshot is one of 0 and 0.
func TestReplayOfASnapshotThatMeetsTheEmptyOne(t *testing.T) {
	e := PutEntry(entry(1, 1))
	w := ofWords(api.Snap{Members: []uint64{1, 2}})
	w.append(entry(1, 1))
	replayed(t, "a snapshot of 0, 0 behind an entry", [][]byte{e, PutSnap(api.Snap{Members: []uint64{1, 2}})}, api.Hard{}, w)
	replayed(t, "a snapshot of 0, 1 behind an entry", [][]byte{e, PutSnap(api.Snap{Term: 1})}, api.Hard{}, ofWords(api.Snap{Term: 1}))
}

// P8.6: snapshots beyond 2^62 are ones of 2^62, and meet each other as such.
func TestReplayOfASnapshotBeyondTheEdge(t *testing.T) {
	far := PutSnap(api.Snap{Index: math.MaxUint64, Term: 7})
	for _, index := range []uint64{most, most + 1, math.MaxUint64} {
		s := api.Snap{Index: index, Term: 7, Data: []byte("again")}
		w := ofWords(s)
		w.append(entry(most+1, 7))
		replayed(t, "two that meet", [][]byte{far, PutEntry(entry(most+1, 7)), PutSnap(s)}, api.Hard{}, w)
		s.Term = 8
		replayed(t, "two of other terms", [][]byte{far, PutEntry(entry(most+1, 7)), PutSnap(s)}, api.Hard{}, ofWords(s))
	}
}

// P8.6, P8.7: drawn records against the words, and what is remembered of the
// log that comes is that log again.
func TestReplayOfDrawnRecords(t *testing.T) {
	for seed := range int64(300) {
		r := rand.New(rand.NewSource(seed))
		w := ofWords(api.Snap{})
		var h api.Hard
		var l [][]byte
		for range r.Intn(30) {
			switch k := r.Intn(12); {
			case k < 2:
				h = api.Hard{Term: uint64(r.Intn(300)), Vote: uint64(r.Intn(10))}
				l = append(l, PutHard(h))
			case k < 4:
				s := api.Snap{Index: w.snap.Index + uint64(r.Intn(len(w.at)+3)), Term: uint64(r.Intn(3)), Members: run64(r.Intn(4)), Data: []byte{byte(seed)}}
				w.snapped(s)
				l = append(l, PutSnap(s))
			default:
				e := drawn(r, w.snap.Index+1+uint64(r.Intn(len(w.at)+1)))
				if bad := w.append(e); bad != api.OK {
					t.Fatal("no entry to append")
				}
				l = append(l, PutEntry(e))
			}
		}
		log := replayed(t, fmt.Sprintf("seed %d", seed), l, h, w)
		again := [][]byte{PutSnap(log.Snap()), PutHard(h)}
		for _, e := range log.Entries(log.First(), math.MaxInt) {
			again = append(again, PutEntry(e))
		}
		replayed(t, fmt.Sprintf("what is left of seed %d", seed), again, h, w)
	}
}

// P8.6: a log that comes goes on as any other.
func TestReplayedLogGoesOn(t *testing.T) {
	s := api.Snap{Index: 5, Term: 1, Members: []uint64{1, 2}}
	w := ofWords(s)
	w.append(entry(6, 1), entry(7, 1))
	log := replayed(t, "three records", [][]byte{PutSnap(s), PutEntry(entry(6, 1)), PutEntry(entry(7, 1))}, api.Hard{}, w)
	appended(t, "Append behind Replay", log, w, entry(7, 2), config(8, 2, 3))
	is(t, "Compact behind Replay", log.Compact(8, []byte("x")), w.compact(8, []byte("x")))
	holds(t, "Compact behind Replay", log, w)
}

// P2: no two answers share memory, nor an answer with what was handed in.
func TestRecordsAreNotShared(t *testing.T) {
	e := api.Entry{Index: 1, Term: 1, Kind: api.Config, Data: list(1, 2)}
	s := api.Snap{Members: []uint64{1, 2}, Data: []byte("data")}
	records := [][]byte{PutSnap(s), PutEntry(e)}
	for _, b := range records {
		for i := range b {
			b[i] ^= 0xff
		}
	}
	if !bytes.Equal(e.Data, list(1, 2)) || string(s.Data) != "data" || !slices.Equal(s.Members, []uint64{1, 2}) {
		t.Fatal("a record shares memory with what was put")
	}
	records = [][]byte{PutSnap(s), PutEntry(e)}
	kept := [][]byte{bytes.Clone(records[0]), bytes.Clone(records[1])}
	w := ofWords(s)
	w.append(e)
	log := replayed(t, "two records", records, api.Hard{}, w)
	spoil(log.Snap(), log.Entries(1, 9))
	if !bytes.Equal(records[0], kept[0]) || !bytes.Equal(records[1], kept[1]) {
		t.Error("Replay changed, or shares memory with, what it was given")
	}
	for _, b := range records {
		clear(b)
	}
	records[0] = nil
	holds(t, "behind a change of the records", log, w)

	b := list(1, 2)
	one, _ := OfMembers(b)
	clear(b)
	if !slices.Equal(one, []uint64{1, 2}) {
		t.Error("OfMembers shares memory with what it was given")
	}
	l := make([]uint64, 3, 5)
	copy(l, []uint64{3, 2, 1})
	PutMembers(l)
	if !slices.Equal(l[:5], []uint64{3, 2, 1, 0, 0}) {
		t.Errorf("PutMembers changed what it was given: %v", l[:5])
	}
}
