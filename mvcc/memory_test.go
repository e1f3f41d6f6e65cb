package mvcc

import (
	"bytes"
	"math"
	"slices"
	"testing"

	"plenum/api"
)

// full answers a version in which every field says something, always the same,
// in new memory.
func full() api.Version {
	return api.Version{Ts: 5, Txn: 7, Dead: true, Val: []byte("value"), Keys: [][]byte{[]byte("one"), []byte("two"), {}, []byte("three")}}
}

// spoil changes all that the version's lists hold, up to their capacity.
func spoil(v api.Version) {
	for _, k := range v.Keys {
		spoilBytes(k)
	}
	for i := range v.Keys[:cap(v.Keys)] {
		v.Keys[:cap(v.Keys)][i] = []byte("spoilt")
	}
	spoilBytes(v.Val)
}

func spoilBytes(b []byte) {
	for i := range b[:cap(b)] {
		b[:cap(b)][i] = '!'
	}
}

// spoilCells changes all that the cells hold, up to their capacity.
func spoilCells(l []api.Cell) {
	for _, c := range l {
		spoilBytes(c.Key)
		spoil(c.Intent)
		for i := range c.Versions {
			spoil(c.Versions[i])
		}
		for i := range c.Versions[:cap(c.Versions)] {
			c.Versions[:cap(c.Versions)][i] = api.Version{Ts: 99}
		}
	}
	for i := range l[:cap(l)] {
		l[:cap(l)][i] = api.Cell{Key: []byte("spoilt")}
	}
}

// spoilKeys changes all that the keys hold, up to their capacity.
func spoilKeys(l [][]byte) {
	for _, k := range l {
		spoilBytes(k)
	}
	for i := range l[:cap(l)] {
		l[:cap(l)][i] = []byte("spoilt")
	}
}

// later answers full at that time.
func later(ts uint64) api.Version {
	v := full()
	v.Ts = ts
	return v
}

// whole answers a store with versions and intents of full at two keys.
func whole(t *testing.T) *Store {
	s := New()
	for _, key := range []string{"key", "other"} {
		put(s, key, full(), later(9))
		intend(t, s, key, full())
	}
	return s
}

// isWhole holds s to what whole made.
func isWhole(t *testing.T, what string, s *Store) {
	t.Helper()
	for _, key := range []string{"key", "other"} {
		has(t, what, s, key, full(), later(9), full())
		reads(t, what, s, key, 6, full())
		reads(t, what, s, key, 9, later(9))
	}
	keys(t, what, s, "key", "other")
	intents(t, what, s, 7, "key", "other")
}

// P2: nothing that is handed in is changed.
func TestNothingHandedInIsChanged(t *testing.T) {
	key, lo, hi, v := []byte("key"), []byte("a"), []byte("z"), full()
	s := New()
	s.Put(key, v)
	s.Put(key, v)
	s.Intend(key, v)
	s.Intend(key, v)
	spoilCells(s.Scan(lo, hi, 9))
	x, _ := s.At(key, 9)
	spoil(x)
	s.Turn(7, 8)
	x, _ = s.At(key, 9)
	spoil(x)
	s.Intend(key, v)
	s.Drop(7)
	s.Gc(8)
	if string(key) != "key" || string(lo) != "a" || string(hi) != "z" || !same(v, full()) {
		t.Errorf("what was handed in was changed: %q, %q, %q, %v", key, lo, hi, v)
	}
}

// P2: what the store has isn't changed by a change of what was handed in.
func TestTheStoreIsKeptApartFromWhatWasHandedIn(t *testing.T) {
	s := New()
	for _, name := range []string{"other", "key"} {
		key, v, w, i := []byte(name), full(), later(9), full()
		s.Put(key, v)
		spoilBytes(key)
		spoil(v)
		key = []byte(name)
		s.Put(key, w)
		spoilBytes(key)
		spoil(w)
		key = []byte(name)
		s.Intend(key, i)
		spoilBytes(key)
		spoil(i)
	}
	isWhole(t, "behind a change of what was handed in", s)
	again := full()
	s.Put([]byte("key"), again)
	spoil(again)
	isWhole(t, "in the place of a version", s)
	again = full()
	s.Intend([]byte("key"), again)
	spoil(again)
	isWhole(t, "in the place of an intent", s)
}

// P2: one version that is handed in for several keys, or twice, is kept for each
// by itself.
func TestOneVersionForSeveralKeys(t *testing.T) {
	s := New()
	v, w := full(), later(9)
	for _, key := range []string{"key", "other"} {
		put(s, key, v, w)
		intend(t, s, key, v)
	}
	for range 2 {
		spoilCells(s.Scan(nil, nil, math.MaxUint64))
	}
	spoil(v)
	spoil(w)
	isWhole(t, "one for several keys", s)
}

// P2: what the store has isn't changed by a change of what was handed out.
func TestTheStoreIsKeptApartFromWhatWasHandedOut(t *testing.T) {
	s := whole(t)
	for range 2 {
		spoilCells(s.Scan(nil, nil, math.MaxUint64))
		spoilCells(s.Scan([]byte("key"), []byte("l"), 5))
		for _, ts := range []uint64{5, 8, 9} {
			v, _ := s.At([]byte("key"), ts)
			spoil(v)
		}
		spoilKeys(s.Intents(7))
		for k := range s.Keys() {
			spoilBytes(k)
		}
		isWhole(t, "behind a change of what was handed out", s)
	}
}

// P2, P5: a key that Keys told may be changed: who goes through it again is told
// the same.
func TestKeysToldAgain(t *testing.T) {
	told := whole(t).Keys()
	for range 3 {
		var got [][]byte
		for k := range told {
			got = append(got, k)
		}
		if len(got) != 2 || string(got[0]) != "key" || string(got[1]) != "other" {
			t.Fatalf("told again: %q", got)
		}
		spoilKeys(got)
	}
}

// P2: no two answers share memory, nor does one change by what is done to the
// store later, Turn, Drop and Gc among it.
func TestAnswersAreApart(t *testing.T) {
	s := whole(t)
	a, b := s.Scan(nil, nil, 99), s.Scan(nil, nil, 99)
	v, _ := s.At([]byte("key"), 9)
	w, _ := s.At([]byte("key"), 9)
	k, l := s.Intents(7), s.Intents(7)
	put(s, "key", api.Version{Ts: 9}, api.Version{Ts: 5}, api.Version{Ts: 7}, api.Version{Ts: 6})
	intend(t, s, "key", of(7, "other"))
	s.Turn(7, 5)
	put(s, "other", api.Version{Ts: 9, Dead: true})
	s.Gc(9)
	want := []api.Cell{
		{Key: []byte("key"), Versions: []api.Version{later(9), full()}, Intent: full()},
		{Key: []byte("other"), Versions: []api.Version{later(9), full()}, Intent: full()},
	}
	for _, cells := range [][]api.Cell{a, b} {
		if !slices.EqualFunc(cells, want, sameCell) {
			t.Errorf("what Scan answered was changed: %v", cells)
		}
		spoilCells(cells)
	}
	for _, x := range []api.Version{v, w} {
		if !same(x, later(9)) {
			t.Errorf("what At answered was changed: %v", x)
		}
		spoil(x)
	}
	for _, x := range [][][]byte{k, l} {
		if len(x) != 2 || string(x[0]) != "key" || string(x[1]) != "other" {
			t.Errorf("what Intents answered was changed: %q", x)
		}
		spoilKeys(x)
	}
}

// P2: the lists of one answer share no memory with each other: each may be
// changed, up to its capacity, without a change of another.
func TestListsOfOneAnswerAreApart(t *testing.T) {
	shared := []byte("one and the same")
	v := api.Version{Ts: 5, Txn: 7, Val: shared[:5], Keys: [][]byte{shared[5:], shared, shared[2:9]}}
	s := New()
	put(s, "a", v)
	intend(t, s, "a", v)
	put(s, "b", v)
	lists := func() [][]byte {
		var l [][]byte
		for _, c := range s.Scan(nil, nil, 99) {
			l = append(l, c.Key)
			for _, x := range append(slices.Clone(c.Versions), c.Intent) {
				l = append(append(l, x.Val), x.Keys...)
			}
		}
		return l
	}
	want := lists()
	for i := range want {
		got := lists()
		spoilBytes(got[i])
		for j := range got {
			if j != i && !bytes.Equal(got[j], want[j]) {
				t.Errorf("behind a change of the list at %d the one at %d is %q, want %q", i, j, got[j], want[j])
			}
		}
	}
	if string(shared) != "one and the same" {
		t.Errorf("what was handed in was changed: %q", shared)
	}
}

// P2: lists of cells, versions and keys of one answer may grow without a change
// of another.
func TestAnswersMayGrow(t *testing.T) {
	s := whole(t)
	cells := s.Scan(nil, nil, 99)
	grown := append(cells[0].Versions, api.Version{Ts: 99})
	grown[0].Keys = append(grown[0].Keys, []byte("more"))
	if !same(cells[0].Versions[1], full()) || !same(cells[1].Versions[0], later(9)) || !same(cells[0].Intent, full()) {
		t.Errorf("behind a growth: %v", cells)
	}
	k := s.Intents(7)
	k[0] = append(k[0], "more"...)
	if string(k[1]) != "other" {
		t.Errorf("behind a growth: %q", k)
	}
	isWhole(t, "behind a growth", s)
}

// hidden answers full in lists that hold more behind their length.
func hidden() api.Version {
	v := full()
	v.Val = append(v.Val, "hidden"...)[:len(v.Val)]
	for i, k := range v.Keys {
		v.Keys[i] = append(k, "hidden"...)[:len(k)]
	}
	v.Keys = append(v.Keys, []byte("hidden"))[:len(v.Keys)]
	return v
}

// P2: what lies behind a list's length is neither read nor kept nor handed out
// nor written.
func TestBehindTheLength(t *testing.T) {
	s := New()
	key, lo, hi, v := []byte("keyhidden")[:3], []byte("kzz")[:1], []byte("k{a")[:2], hidden()
	s.Put(key, v)
	s.Intend(key, v)
	cells := s.Scan(lo, hi, 5)
	if len(cells) != 1 || !sameCell(cells[0], api.Cell{Key: []byte("key"), Versions: []api.Version{full()}, Intent: full()}) {
		t.Fatalf("lists with more behind them: %v", cells)
	}
	x, _ := s.At(key, 5)
	for _, y := range []api.Version{x, cells[0].Versions[0], cells[0].Intent} {
		unseen(t, y)
		spoil(y)
	}
	for _, y := range cells[0].Versions[1:cap(cells[0].Versions)] {
		if !same(y, api.Version{}) {
			t.Errorf("a version behind the length: %v", y)
		}
	}
	spoilCells(cells)
	if string(key[:9]) != "keyhidden" || string(lo[:3]) != "kzz" || string(hi[:3]) != "k{a" || string(v.Val[:11]) != "valuehidden" || string(v.Keys[:5][4]) != "hidden" {
		t.Errorf("what lay behind the length was changed: %q, %q, %q, %v", key[:9], lo[:3], hi[:3], v)
	}
	for i, k := range v.Keys {
		if string(k[len(k):len(k)+6]) != "hidden" {
			t.Errorf("what lay behind the key at %d was changed", i)
		}
	}
}

// unseen holds all that lies behind the lengths of an answer's lists to
// nothing.
func unseen(t *testing.T, v api.Version) {
	t.Helper()
	for _, k := range v.Keys[len(v.Keys):cap(v.Keys)] {
		if len(k) > 0 {
			t.Errorf("a key behind the length: %q", k)
		}
	}
	for _, b := range append([][]byte{v.Val}, v.Keys...) {
		for _, c := range b[len(b):cap(b)] {
			if c != 0 {
				t.Errorf("a byte behind the length: %q", b[:cap(b)])
			}
		}
	}
}

// P2: what a version that is gone held isn't handed out behind the length of
// what is left.
func TestWhatIsGoneIsNotHandedOut(t *testing.T) {
	s := New()
	put(s, "k", later(1), later(2), later(3), api.Version{Ts: 4})
	counts(t, "Gc", s.Gc(4), 3)
	l := s.Scan(nil, nil, 99)[0].Versions
	for _, v := range l[len(l):cap(l)] {
		if !same(v, api.Version{}) {
			t.Errorf("behind the length: %v", v)
		}
	}
}
