package mvcc

import (
	"math"
	"slices"
	"testing"

	"plenum/api"
)

// intents holds Intents to just these keys.
func intents(t *testing.T, what string, s *Store, txn uint64, want ...string) {
	t.Helper()
	var got []string
	for _, k := range s.Intents(txn) {
		got = append(got, string(k))
	}
	if !slices.Equal(got, want) {
		t.Errorf("%s: the intents of %d are at %q, want %q", what, txn, got, want)
	}
}

// refused holds Intend to ErrTxn.
func refused(t *testing.T, what string, s *Store, key string, v api.Version) {
	t.Helper()
	if e := s.Intend([]byte(key), v); e != api.ErrTxn {
		t.Errorf("%s: Intend(%q, %v): %d, want ErrTxn", what, key, v, e)
	}
}

// P12.2: ErrTxn with Txn 0, where nobody's intent is there, where somebody's is,
// and whatever else the version says; nothing changes.
func TestIntendOfNoTransaction(t *testing.T) {
	s := New()
	for _, v := range []api.Version{{}, {Ts: 5}, {Dead: true}, {Ts: math.MaxUint64, Val: []byte("v"), Keys: [][]byte{[]byte("k")}}} {
		refused(t, "no key", s, "k", v)
		refused(t, "no key", s, "", v)
	}
	keys(t, "behind what was refused", s)
	put(s, "v", at(3, "a"))
	intend(t, s, "i", of(7, "b"))
	refused(t, "a version alone", s, "v", api.Version{Ts: 3})
	refused(t, "an intent", s, "i", api.Version{})
	has(t, "behind what was refused", s, "v", api.Version{}, at(3, "a"))
	has(t, "behind what was refused", s, "i", of(7, "b"))
	keys(t, "behind what was refused", s, "i", "v")
	intents(t, "behind what was refused", s, 0)
}

// P12.2: where nobody's intent is there, v is the key's intent, with all that it
// says; the versions stay.
func TestIntend(t *testing.T) {
	for _, v := range []api.Version{of(1, "b"), {Txn: math.MaxUint64}, {Txn: 1, Dead: true}, {Ts: 3, Txn: 1}, {Ts: math.MaxUint64, Txn: 1}, full()} {
		s := New()
		put(s, "v", at(3, "a"), at(9, "c"))
		intend(t, s, "v", v)
		intend(t, s, "i", v)
		intend(t, s, "", v)
		has(t, "beside versions", s, "v", v, at(9, "c"), at(3, "a"))
		has(t, "alone", s, "i", v)
		has(t, "at the empty key", s, "", v)
		reads(t, "an intent isn't read", s, "v", math.MaxUint64, at(9, "c"))
		intents(t, "three of them", s, v.Txn, "", "i", "v")
		keys(t, "three of them", s, "", "i", "v")
	}
}

// P12.2: an intent stands in the place of its transaction's own one, whole, as
// often as it is told.
func TestIntendAgain(t *testing.T) {
	s := New()
	put(s, "k", at(3, "a"))
	for _, v := range []api.Version{of(7, "b"), {Ts: 8, Txn: 7, Dead: true, Keys: [][]byte{[]byte("k")}}, of(7, "b"), {Txn: 7}} {
		intend(t, s, "k", v)
		has(t, "told again", s, "k", v, at(3, "a"))
		intents(t, "told again", s, 7, "k")
	}
	counts(t, "Turn", s.Turn(7, 9), 1)
	has(t, "turned", s, "k", api.Version{}, api.Version{Ts: 9, Txn: 7}, at(3, "a"))
}

// P12.2: ErrTxn, where another transaction's intent is there, which stays; of
// another key, and when it is gone, it is none.
func TestIntendWhereAnothersIs(t *testing.T) {
	s := New()
	intend(t, s, "k", of(7, "b"))
	for _, txn := range []uint64{1, 6, 8, math.MaxUint64} {
		refused(t, "another's", s, "k", of(txn, "c"))
		has(t, "behind what was refused", s, "k", of(7, "b"))
		intents(t, "behind what was refused", s, txn)
	}
	intend(t, s, "k2", of(8, "c"))
	refused(t, "another's", s, "k2", of(7, "d"))
	intend(t, s, "k", of(7, "e"))
	has(t, "its own again", s, "k", of(7, "e"))
	counts(t, "Drop", s.Drop(7), 1)
	intend(t, s, "k", of(8, "f"))
	refused(t, "the other way round", s, "k", of(7, "g"))
	counts(t, "Turn", s.Turn(8, 4), 2)
	intend(t, s, "k", of(7, "h"))
	has(t, "behind Turn", s, "k", of(7, "h"), api.Version{Ts: 4, Txn: 8, Val: []byte("f")})
}

// several answers a store with one intent of 1, four of 2 and none of others.
func several(t *testing.T) *Store {
	s := New()
	put(s, "b", at(3, "b3"))
	put(s, "d", at(3, "d3"), at(6, "d6"))
	put(s, "e", at(5, "e5"))
	for _, key := range []string{"d", "a", "\xff", ""} {
		intend(t, s, key, of(2, "two "+key))
	}
	intend(t, s, "b", of(1, "one"))
	return s
}

// P12.2: Intents of a transaction with no intent, one and many, and of 0; it
// changes nothing.
func TestIntents(t *testing.T) {
	s := several(t)
	for range 2 {
		for _, txn := range []uint64{0, 3, 4, math.MaxUint64} {
			intents(t, "none", s, txn)
		}
		intents(t, "one", s, 1, "b")
		intents(t, "many", s, 2, "", "a", "d", "\xff")
	}
}

// P12.2: Intents stand byte by byte, however many there are and in whatever
// order they came.
func TestIntentsRise(t *testing.T) {
	s := New()
	want := []string{"", "\x00", "\x00\x00", "\x00\x01", "\x00\xff", "\x01", "A", "a", "a\x00", "aa", "ab", "b", "\x7f", "\x80", "\xc3\xa9", "\xfe\xff", "\xff", "\xff\x00", "\xff\xff"}
	for i := range want {
		intend(t, s, want[i*7%len(want)], of(5, "v"))
	}
	intents(t, "many", s, 5, want...)
	keys(t, "many", s, want...)
}

// P12.2: Turn of a transaction with no intent, of 0, and of one: its intents
// become versions with that Ts, whatever theirs was; all others stay.
func TestTurn(t *testing.T) {
	s := several(t)
	for _, txn := range []uint64{0, 3, 4, math.MaxUint64} {
		counts(t, "Turn of none", s.Turn(txn, 9), 0)
	}
	intents(t, "behind Turn of none", s, 1, "b")
	intents(t, "behind Turn of none", s, 2, "", "a", "d", "\xff")
	counts(t, "Turn of one", s.Turn(1, 4), 1)
	has(t, "turned", s, "b", api.Version{}, api.Version{Ts: 4, Txn: 1, Val: []byte("one")}, at(3, "b3"))
	intents(t, "turned", s, 1)
	intents(t, "another's", s, 2, "", "a", "d", "\xff")
	counts(t, "Turn twice", s.Turn(1, 5), 0)
	has(t, "turned twice", s, "b", api.Version{}, api.Version{Ts: 4, Txn: 1, Val: []byte("one")}, at(3, "b3"))
	has(t, "another key", s, "e", api.Version{}, at(5, "e5"))
}

// P12.2: Turn of many, at a time among those of the key's versions; the keys
// stay.
func TestTurnOfMany(t *testing.T) {
	for _, ts := range []uint64{0, 2, 4, 5, 7, math.MaxUint64} {
		s := several(t)
		counts(t, "Turn of many", s.Turn(2, ts), 4)
		for _, key := range []string{"", "a", "\xff"} {
			has(t, "turned", s, key, api.Version{}, api.Version{Ts: ts, Txn: 2, Val: []byte("two " + key)})
		}
		d := []api.Version{at(6, "d6"), at(3, "d3"), {Ts: ts, Txn: 2, Val: []byte("two d")}}
		slices.SortFunc(d, func(a, b api.Version) int {
			if a.Ts > b.Ts {
				return -1
			}
			return 1
		})
		has(t, "turned beside versions", s, "d", api.Version{}, d...)
		has(t, "another's", s, "b", of(1, "one"), at(3, "b3"))
		intents(t, "turned", s, 2)
		intents(t, "another's", s, 1, "b")
		counts(t, "Turn twice", s.Turn(2, ts), 0)
		counts(t, "Drop behind Turn", s.Drop(2), 0)
		keys(t, "turned", s, "", "a", "b", "d", "e", "\xff")
	}
}

// P12.2: Turn keeps what an intent says but for its Ts; a Dead one becomes a
// Dead version.
func TestTurnKeepsWhatAnIntentSays(t *testing.T) {
	for _, v := range []api.Version{full(), {Txn: full().Txn, Dead: true, Ts: math.MaxUint64}} {
		s := New()
		intend(t, s, "k", v)
		counts(t, "Turn", s.Turn(v.Txn, 5), 1)
		want := v
		want.Ts = 5
		reads(t, "turned", s, "k", 5, want)
		readsNone(t, "turned, sooner", s, "k", 4)
		has(t, "turned", s, "k", api.Version{}, want)
	}
}

// P12.2: Turn at a Ts that the key has a version of already: the intent stands
// in its place, as with Put.
func TestTurnAtATsThatThereIs(t *testing.T) {
	s := New()
	put(s, "k", at(3, "a"), at(5, "b"), at(7, "c"))
	for i, ts := range []uint64{5, 3, 7, 5} {
		val := string(rune('p' + i))
		intend(t, s, "k", of(9, val))
		counts(t, "Turn", s.Turn(9, ts), 1)
		reads(t, "turned", s, "k", ts, api.Version{Ts: ts, Txn: 9, Val: []byte(val)})
	}
	has(t, "turned", s, "k", api.Version{},
		api.Version{Ts: 7, Txn: 9, Val: []byte("r")}, api.Version{Ts: 5, Txn: 9, Val: []byte("s")}, api.Version{Ts: 3, Txn: 9, Val: []byte("q")})
}

// P12.2: Drop of a transaction with no intent, of 0, of one and of many, and
// twice: its intents are gone, and keys that had nothing else; versions stay.
func TestDrop(t *testing.T) {
	s := several(t)
	for _, txn := range []uint64{0, 3, 4, math.MaxUint64} {
		counts(t, "Drop of none", s.Drop(txn), 0)
	}
	intents(t, "behind Drop of none", s, 1, "b")
	intents(t, "behind Drop of none", s, 2, "", "a", "d", "\xff")
	counts(t, "Drop of one", s.Drop(1), 1)
	has(t, "dropped", s, "b", api.Version{}, at(3, "b3"))
	intents(t, "dropped", s, 1)
	intents(t, "another's", s, 2, "", "a", "d", "\xff")
	keys(t, "dropped", s, "", "a", "b", "d", "e", "\xff")
	counts(t, "Drop twice", s.Drop(1), 0)
	counts(t, "Drop of many", s.Drop(2), 4)
	intents(t, "dropped", s, 2)
	has(t, "dropped", s, "d", api.Version{}, at(6, "d6"), at(3, "d3"))
	has(t, "dropped", s, "a", api.Version{})
	keys(t, "dropped", s, "b", "d", "e")
	counts(t, "Drop twice", s.Drop(2), 0)
	counts(t, "Turn behind Drop", s.Turn(2, 9), 0)
	keys(t, "dropped twice", s, "b", "d", "e")
}

// P12.2: a version of a transaction is no intent of it: Drop and Turn leave it.
func TestVersionsAreNoIntents(t *testing.T) {
	s := New()
	put(s, "k", api.Version{Ts: 3, Txn: 7, Val: []byte("a")}, api.Version{Ts: 4, Val: []byte("of nobody")})
	for _, txn := range []uint64{0, 7} {
		intents(t, "versions alone", s, txn)
		counts(t, "Turn", s.Turn(txn, 9), 0)
		counts(t, "Drop", s.Drop(txn), 0)
	}
	has(t, "versions alone", s, "k", api.Version{}, api.Version{Ts: 4, Val: []byte("of nobody")}, api.Version{Ts: 3, Txn: 7, Val: []byte("a")})
}
