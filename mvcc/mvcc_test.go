package mvcc

import (
	"bytes"
	"math"
	"slices"
	"testing"

	"plenum/api"
)

// same answers whether the versions say the same; no list and an empty one are
// the same.
func same(a, b api.Version) bool {
	return a.Ts == b.Ts && a.Txn == b.Txn && a.Dead == b.Dead && bytes.Equal(a.Val, b.Val) && slices.EqualFunc(a.Keys, b.Keys, bytes.Equal)
}

func sameCell(a, b api.Cell) bool {
	return bytes.Equal(a.Key, b.Key) && slices.EqualFunc(a.Versions, b.Versions, same) && same(a.Intent, b.Intent)
}

// at answers a version of that time, told apart by its value.
func at(ts uint64, val string) api.Version {
	return api.Version{Ts: ts, Txn: ts/2 + 1, Val: []byte(val)}
}

// dead answers a Dead version of that time.
func dead(ts uint64) api.Version {
	return api.Version{Ts: ts, Txn: ts/2 + 1, Dead: true}
}

// of answers what a transaction is about to write, told apart by its value.
func of(txn uint64, val string) api.Version {
	return api.Version{Txn: txn, Val: []byte(val)}
}

// put puts all of them at the key.
func put(s *Store, key string, l ...api.Version) {
	for _, v := range l {
		s.Put([]byte(key), v)
	}
}

// intend makes v the key's intent, and holds Intend to answering OK.
func intend(t *testing.T, s *Store, key string, v api.Version) {
	t.Helper()
	if e := s.Intend([]byte(key), v); e != api.OK {
		t.Fatalf("Intend(%q, %v): %d, want OK", key, v, e)
	}
}

// reads holds At to that version.
func reads(t *testing.T, what string, s *Store, key string, ts uint64, want api.Version) {
	t.Helper()
	if v, is := s.At([]byte(key), ts); !is || !same(v, want) {
		t.Errorf("%s: At(%q, %d): %v, %v; want %v", what, key, ts, v, is, want)
	}
}

// readsNone holds At to answering nothing.
func readsNone(t *testing.T, what string, s *Store, key string, ts uint64) {
	t.Helper()
	if v, is := s.At([]byte(key), ts); is || !same(v, api.Version{}) {
		t.Errorf("%s: At(%q, %d): %v, %v; want nothing", what, key, ts, v, is)
	}
}

// has holds the key to just these versions, the greatest Ts ahead, and that
// intent (Txn 0: none).
func has(t *testing.T, what string, s *Store, key string, intent api.Version, versions ...api.Version) {
	t.Helper()
	var want []api.Cell
	if len(versions) > 0 || intent.Txn != 0 {
		want = []api.Cell{{Key: []byte(key), Versions: versions, Intent: intent}}
	}
	if got := s.Scan([]byte(key), []byte(key+"\x00"), math.MaxUint64); !slices.EqualFunc(got, want, sameCell) {
		t.Errorf("%s: the key %q has %v, want %v", what, key, got, want)
	}
}

// keys holds Keys to just these.
func keys(t *testing.T, what string, s *Store, want ...string) {
	t.Helper()
	var got []string
	for k := range s.Keys() {
		got = append(got, string(k))
	}
	if !slices.Equal(got, want) {
		t.Errorf("%s: the keys are %q, want %q", what, got, want)
	}
}

// counts holds how many a call answered.
func counts(t *testing.T, what string, got, want int) {
	t.Helper()
	if got != want {
		t.Errorf("%s: %d, want %d", what, got, want)
	}
}

// P12.1: a new store has no keys, and stores are apart from each other.
func TestNewHasNothing(t *testing.T) {
	s, other := New(), New()
	if s == nil {
		t.Fatal("New(): nil")
	}
	put(other, "k", at(3, "a"))
	intend(t, other, "l", of(1, "b"))
	keys(t, "a new store", s)
	readsNone(t, "a new store", s, "k", math.MaxUint64)
	readsNone(t, "a new store", s, "", 0)
	if l := s.Scan(nil, nil, math.MaxUint64); len(l) != 0 {
		t.Errorf("Scan: %v, want none", l)
	}
	if l := s.Intents(1); len(l) != 0 {
		t.Errorf("Intents: %q, want none", l)
	}
	counts(t, "Turn", s.Turn(1, 9), 0)
	counts(t, "Drop", s.Drop(1), 0)
	counts(t, "Gc", s.Gc(math.MaxUint64), 0)
	keys(t, "the other store", other, "k", "l")
}

// The chapter's example: Put of versions 3 and 5: At(4) tells 3.
func TestExample(t *testing.T) {
	s := New()
	put(s, "k", at(3, "a"), at(5, "b"))
	reads(t, "the example", s, "k", 4, at(3, "a"))
}

// P12.1: At below, at, between and above the times of a key's versions, and of
// keys that have none.
func TestAt(t *testing.T) {
	s := New()
	put(s, "k", at(3, "a"), at(5, "b"), at(9, "c"))
	put(s, "other", at(1, "x"))
	for ts := range uint64(3) {
		readsNone(t, "below all", s, "k", ts)
	}
	for _, x := range []struct {
		ts   uint64
		want api.Version
	}{
		{3, at(3, "a")}, {4, at(3, "a")}, {5, at(5, "b")}, {6, at(5, "b")}, {8, at(5, "b")},
		{9, at(9, "c")}, {10, at(9, "c")}, {math.MaxInt64 + 1, at(9, "c")}, {math.MaxUint64, at(9, "c")},
	} {
		reads(t, "three versions", s, "k", x.ts, x.want)
	}
	for _, key := range []string{"", "j", "k\x00", "kk", "K", "l"} {
		readsNone(t, "a key that has none", s, key, math.MaxUint64)
	}
	intend(t, s, "i", of(1, "about to be"))
	readsNone(t, "a key with an intent alone", s, "i", math.MaxUint64)
	keys(t, "reading makes no key", s, "i", "k", "other")
}

// P12.1: in whatever order the versions of a key are put, they are the same.
func TestPutInAnyOrder(t *testing.T) {
	times := []uint64{0, 1, 7, 1 << 63, math.MaxUint64}
	orders(times, func(order []uint64) {
		s := New()
		for _, ts := range order {
			put(s, "k", at(ts, "v"))
		}
		has(t, "put in some order", s, "k", api.Version{}, at(math.MaxUint64, "v"), at(1<<63, "v"), at(7, "v"), at(1, "v"), at(0, "v"))
		for _, x := range []struct{ ts, want uint64 }{{0, 0}, {1, 1}, {6, 1}, {7, 7}, {1<<63 - 1, 7}, {1 << 63, 1 << 63}, {math.MaxUint64 - 1, 1 << 63}, {math.MaxUint64, math.MaxUint64}} {
			reads(t, "put in some order", s, "k", x.ts, at(x.want, "v"))
		}
	})
}

// orders tells all orders of the list.
func orders(l []uint64, tell func([]uint64)) {
	var from func(i int)
	from = func(i int) {
		if i == len(l) {
			tell(l)
		}
		for j := i; j < len(l); j++ {
			l[i], l[j] = l[j], l[i]
			from(i + 1)
			l[i], l[j] = l[j], l[i]
		}
	}
	from(0)
}

// P12.1: a version stands in the place of one with the same Ts, whole, and of
// no other.
func TestPutOfTheSameTs(t *testing.T) {
	for _, ts := range []uint64{0, 5, 7, 9, math.MaxUint64} {
		s := New()
		put(s, "k", at(0, "0"), at(5, "5"), at(7, "7"), at(9, "9"), at(math.MaxUint64, "max"))
		put(s, "other", at(ts, "other"))
		put(s, "k", api.Version{Ts: ts, Txn: 77, Dead: true, Keys: [][]byte{[]byte("k")}})
		reads(t, "a second one", s, "k", ts, api.Version{Ts: ts, Txn: 77, Dead: true, Keys: [][]byte{[]byte("k")}})
		put(s, "k", api.Version{Ts: ts})
		reads(t, "a third one", s, "k", ts, api.Version{Ts: ts})
		want := []api.Version{at(math.MaxUint64, "max"), at(9, "9"), at(7, "7"), at(5, "5"), at(0, "0")}
		for i := range want {
			if want[i].Ts == ts {
				want[i] = api.Version{Ts: ts}
			}
		}
		has(t, "behind them", s, "k", api.Version{}, want...)
		has(t, "another key", s, "other", api.Version{}, at(ts, "other"))
	}
}

// P12.1: a version is there as it was put, whatever it says, at whatever key.
func TestPutKeepsAllThatAVersionSays(t *testing.T) {
	versions := []api.Version{
		{}, {Ts: 1}, {Txn: 1}, {Dead: true}, {Ts: math.MaxUint64, Txn: math.MaxUint64, Dead: true}, full(),
		{Ts: 4, Val: []byte{}}, {Ts: 4, Val: []byte{0}}, {Ts: 4, Val: []byte{0xff, 0, 0x80}}, {Ts: 4, Dead: true, Val: []byte("dead, with a value")},
		{Ts: 4, Keys: [][]byte{}}, {Ts: 4, Keys: [][]byte{nil}}, {Ts: 4, Keys: [][]byte{[]byte("b"), []byte("a"), {}, []byte("b")}},
		{Ts: 4, Val: bytes.Repeat([]byte("long"), 5000)},
	}
	for _, key := range []string{"", "k", "\x00", "\x00\x00", "\xff", "\xff\xff\xff", "k\x00k", "\u00e9", "\x80\xfe"} {
		for _, v := range versions {
			s := New()
			put(s, key, v)
			reads(t, "one version", s, key, v.Ts, v)
			reads(t, "one version, later", s, key, math.MaxUint64, v)
			if v.Ts > 0 {
				readsNone(t, "one version, sooner", s, key, v.Ts-1)
			}
			has(t, "one version", s, key, api.Version{}, v)
			keys(t, "one version", s, key)
		}
	}
}

// P12.1: the empty key is a key as all others, and nil is the empty key.
func TestTheEmptyKey(t *testing.T) {
	s := New()
	s.Put(nil, at(3, "nil"))
	s.Put([]byte{}, at(5, "empty"))
	reads(t, "the empty key", s, "", 4, at(3, "nil"))
	if v, is := s.At(nil, 5); !is || !same(v, at(5, "empty")) {
		t.Errorf("At(nil, 5): %v, %v", v, is)
	}
	if e := s.Intend(nil, of(1, "i")); e != api.OK {
		t.Errorf("Intend(nil): %d", e)
	}
	if e := s.Intend([]byte{}, of(2, "j")); e != api.ErrTxn {
		t.Errorf("Intend of the empty key: %d, want ErrTxn", e)
	}
	has(t, "the empty key", s, "", of(1, "i"), at(5, "empty"), at(3, "nil"))
	keys(t, "the empty key", s, "")
	put(s, "\x00", at(1, "other"))
	keys(t, "the empty key and another", s, "", "\x00")
	counts(t, "Gc", s.Gc(4), 0)
	counts(t, "Gc", s.Gc(5), 1)
	counts(t, "Turn", s.Turn(1, 8), 1)
	has(t, "behind Gc and Turn", s, "", api.Version{}, api.Version{Ts: 8, Txn: 1, Val: []byte("i")}, at(5, "empty"))
}

// P12.1: a Put changes nothing of another key, nor of the key's intent.
func TestPutLeavesTheRest(t *testing.T) {
	s := New()
	put(s, "a", at(3, "a"))
	intend(t, s, "k", of(4, "i"))
	put(s, "k", at(3, "k"), api.Version{Ts: 4, Txn: 4, Val: []byte("of the same transaction")})
	has(t, "behind Put", s, "k", of(4, "i"), api.Version{Ts: 4, Txn: 4, Val: []byte("of the same transaction")}, at(3, "k"))
	has(t, "another key", s, "a", api.Version{}, at(3, "a"))
	if l := s.Intents(4); len(l) != 1 || string(l[0]) != "k" {
		t.Errorf("Intents(4): %q", l)
	}
}

// P1, P12.4: a store that nobody made has nothing, and keeps nothing.
func TestAStoreThatNobodyMade(t *testing.T) {
	for name, s := range map[string]*Store{"nil": nil, "the zero value": {}} {
		for range 2 {
			s.Put([]byte("k"), at(3, "a"))
			s.Put(nil, api.Version{})
			for _, v := range []api.Version{{}, of(1, "b"), {Txn: math.MaxUint64}} {
				if e := s.Intend([]byte("k"), v); e != api.ErrTxn {
					t.Errorf("%s: Intend(%v): %d, want ErrTxn", name, v, e)
				}
				if e := s.Intend(nil, v); e != api.ErrTxn {
					t.Errorf("%s: Intend(nil, %v): %d, want ErrTxn", name, v, e)
				}
			}
			for _, ts := range []uint64{0, 3, math.MaxUint64} {
				readsNone(t, name, s, "k", ts)
				readsNone(t, name, s, "", ts)
				if l := s.Scan(nil, nil, ts); len(l) != 0 {
					t.Errorf("%s: Scan: %v, want none", name, l)
				}
				counts(t, name+": Turn", s.Turn(1, ts), 0)
				counts(t, name+": Drop", s.Drop(ts), 0)
				counts(t, name+": Gc", s.Gc(ts), 0)
				if l := s.Intents(ts); len(l) != 0 {
					t.Errorf("%s: Intents: %q, want none", name, l)
				}
			}
			counts(t, name+": Turn", s.Turn(0, 0), 0)
			if s.Keys() == nil {
				t.Fatalf("%s: Keys is nil", name)
			}
			keys(t, name, s)
			keys(t, name, s)
		}
	}
}
