package mvcc

import (
	"math"
	"slices"
	"testing"

	"plenum/api"
)

// P12.4: Gc below, at, between and above the times of a key's versions, with the
// version that At tells Dead and not; and twice.
func TestGc(t *testing.T) {
	all := []api.Version{at(9, "d"), dead(7), at(5, "b"), dead(3), at(2, "a")}
	for _, x := range []struct{ ts, left uint64 }{
		{0, 5}, {1, 5}, {2, 5}, {3, 3}, {4, 3}, {5, 3}, {6, 3}, {7, 1}, {8, 1}, {9, 1}, {10, 1}, {math.MaxUint64, 1},
	} {
		s := New()
		put(s, "k", all...)
		counts(t, "Gc", s.Gc(x.ts), 5-int(x.left))
		has(t, "behind Gc", s, "k", api.Version{}, all[:x.left]...)
		counts(t, "Gc twice", s.Gc(x.ts), 0)
		counts(t, "Gc sooner", s.Gc(0), 0)
		has(t, "behind Gc twice", s, "k", api.Version{}, all[:x.left]...)
		keys(t, "behind Gc", s, "k")
	}
}

// P12.4: of a key whose one version At tells: it stays, but a Dead one is gone,
// and the key with it.
func TestGcOfOneVersion(t *testing.T) {
	for _, at := range []uint64{0, 1, 5, math.MaxUint64} {
		for _, ts := range []uint64{0, 1, 4, 5, 6, math.MaxUint64} {
			for _, gone := range []bool{false, true} {
				s := New()
				v := api.Version{Ts: at, Txn: 1, Dead: gone, Val: []byte("v")}
				put(s, "k", v)
				if gone && at <= ts {
					counts(t, "Gc of a Dead one", s.Gc(ts), 1)
					has(t, "behind Gc", s, "k", api.Version{})
					keys(t, "behind Gc", s)
					readsNone(t, "behind Gc", s, "k", math.MaxUint64)
				} else {
					counts(t, "Gc", s.Gc(ts), 0)
					has(t, "behind Gc", s, "k", api.Version{}, v)
					keys(t, "behind Gc", s, "k")
				}
				counts(t, "Gc twice", s.Gc(ts), 0)
			}
		}
	}
}

// P12.4: a Dead version that At doesn't tell stays above ts, and goes with the
// older ones; of Dead ones alone all go.
func TestGcOfDeadOnes(t *testing.T) {
	s := New()
	put(s, "above", at(3, "a"), dead(9))
	put(s, "older", dead(1), dead(2), at(3, "b"))
	put(s, "alone", dead(1), dead(2), dead(3))
	put(s, "with more", dead(3), at(4, "c"), dead(9), at(12, "d"))
	counts(t, "Gc", s.Gc(5), 6)
	has(t, "above", s, "above", api.Version{}, dead(9), at(3, "a"))
	has(t, "older", s, "older", api.Version{}, at(3, "b"))
	has(t, "alone", s, "alone", api.Version{})
	has(t, "with more", s, "with more", api.Version{}, at(12, "d"), dead(9), at(4, "c"))
	keys(t, "behind Gc", s, "above", "older", "with more")
	counts(t, "Gc", s.Gc(10), 4)
	keys(t, "behind Gc", s, "older", "with more")
	has(t, "with more", s, "with more", api.Version{}, at(12, "d"))
}

// P12.4: Gc works on all keys, and on each by itself.
func TestGcOfManyKeys(t *testing.T) {
	s := New()
	want := 0
	for i := range 60 {
		for ts := range i {
			put(s, string([]byte{byte(i)}), at(uint64(ts), "v"))
		}
		want += max(min(i, 31)-1, 0)
	}
	counts(t, "Gc", s.Gc(30), want)
	for i := range 60 {
		var left []api.Version
		for ts := i - 1; ts >= min(30, i-1) && ts >= 0; ts-- {
			left = append(left, at(uint64(ts), "v"))
		}
		has(t, "behind Gc", s, string([]byte{byte(i)}), api.Version{}, left...)
	}
}

// P12.4: Gc leaves intents as they are, of keys with versions that go, that
// stay, and without any, also where all versions go.
func TestGcLeavesIntents(t *testing.T) {
	s := New()
	put(s, "go", at(1, "a"), at(2, "b"), at(3, "c"))
	put(s, "stay", at(3, "d"))
	put(s, "all", at(1, "e"), dead(3))
	put(s, "above", dead(9))
	gone := api.Version{Ts: 1, Txn: 7, Dead: true, Keys: [][]byte{[]byte("go")}}
	for _, key := range []string{"go", "stay", "all", "above", "none"} {
		intend(t, s, key, gone)
	}
	counts(t, "Gc", s.Gc(4), 4)
	for range 2 {
		has(t, "go", s, "go", gone, at(3, "c"))
		has(t, "stay", s, "stay", gone, at(3, "d"))
		has(t, "all", s, "all", gone)
		has(t, "above", s, "above", gone, dead(9))
		has(t, "none", s, "none", gone)
		keys(t, "behind Gc", s, "above", "all", "go", "none", "stay")
		intents(t, "behind Gc", s, 7, "above", "all", "go", "none", "stay")
		counts(t, "Gc twice", s.Gc(4), 0)
	}
	counts(t, "Turn", s.Turn(7, 10), 5)
	counts(t, "Gc of what they became", s.Gc(10), 8)
	keys(t, "behind Gc of what they became", s)
}

// P12.1, P12.4: behind Gc versions of any time may be put again, also older
// ones.
func TestPutBehindGc(t *testing.T) {
	s := New()
	put(s, "k", at(1, "a"), at(3, "b"), at(5, "c"))
	counts(t, "Gc", s.Gc(5), 2)
	put(s, "k", at(2, "d"), at(9, "e"), at(5, "f"))
	has(t, "put again", s, "k", api.Version{}, at(9, "e"), at(5, "f"), at(2, "d"))
	readsNone(t, "what is gone", s, "k", 1)
	counts(t, "Gc", s.Gc(4), 0)
	counts(t, "Gc", s.Gc(8), 1)
	has(t, "behind Gc", s, "k", api.Version{}, at(9, "e"), at(5, "f"))
}

// P12.5: behind Gc(ts) At tells the same for all times from ts on, but that a
// Dead one may be no version: of all keys with versions at some of six times,
// each Dead or not, and all times.
func TestReadsStay(t *testing.T) {
	const times = 6
	for form := range 729 {
		s := New()
		for ts, rest := uint64(0), form; ts < times; ts, rest = ts+1, rest/3 {
			switch rest % 3 {
			case 1:
				put(s, "k", at(ts, "v"))
			case 2:
				put(s, "k", dead(ts))
			}
		}
		all := slices.Clone(cellOf(s, "k"))
		for ts := range uint64(times + 1) {
			s := New()
			put(s, "k", all...)
			gone := s.Gc(ts)
			counts(t, "versions gone and left", gone+len(cellOf(s, "k")), len(all))
			for from := ts; from <= times; from++ {
				v, is := newest(all, from)
				switch got, gotIs := s.At([]byte("k"), from); {
				case gotIs == is && same(got, v):
				case !gotIs && v.Dead:
				default:
					t.Fatalf("%v behind Gc(%d): At(%d): %v, %v; want %v, %v", all, ts, from, got, gotIs, v, is)
				}
			}
		}
	}
}

// cellOf answers the versions of the key.
func cellOf(s *Store, key string) []api.Version {
	for _, c := range s.Scan([]byte(key), []byte(key+"\x00"), math.MaxUint64) {
		return c.Versions
	}
	return nil
}

// newest answers the version with the greatest Ts of at most ts, if there is
// one.
func newest(l []api.Version, ts uint64) (api.Version, bool) {
	best, is := api.Version{}, false
	for _, v := range l {
		if v.Ts <= ts && (!is || v.Ts > best.Ts) {
			best, is = v, true
		}
	}
	return best, is
}
