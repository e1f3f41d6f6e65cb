package mvcc

import (
	"math"
	"slices"
	"testing"

	"plenum/api"
)

// mixed answers a store with keys of all kinds: at "a" versions alone, at "c" an
// intent alone, at "e" both, at "g" versions above 50 alone, at "i" an intent
// and versions above 50 alone, and at the empty key one version.
func mixed(t *testing.T) *Store {
	s := New()
	put(s, "g", at(60, "g60"), at(70, "g70"))
	put(s, "a", at(10, "a10"), dead(30), at(20, "a20"))
	put(s, "e", at(10, "e10"), at(60, "e60"))
	put(s, "i", at(60, "i60"))
	put(s, "", at(10, "empty"))
	intend(t, s, "i", of(2, "i"))
	intend(t, s, "e", of(2, "e"))
	intend(t, s, "c", of(1, "c"))
	return s
}

// cellsUpTo answers what Scan tells of mixed at that time, without bounds.
func cellsUpTo(ts uint64) []api.Cell {
	cells := []api.Cell{
		{Versions: []api.Version{at(10, "empty")}},
		{Key: []byte("a"), Versions: []api.Version{dead(30), at(20, "a20"), at(10, "a10")}},
		{Key: []byte("c"), Intent: of(1, "c")},
		{Key: []byte("e"), Versions: []api.Version{at(60, "e60"), at(10, "e10")}, Intent: of(2, "e")},
		{Key: []byte("g"), Versions: []api.Version{at(70, "g70"), at(60, "g60")}},
		{Key: []byte("i"), Versions: []api.Version{at(60, "i60")}, Intent: of(2, "i")},
	}
	for i := range cells {
		cells[i].Versions = slices.DeleteFunc(cells[i].Versions, func(v api.Version) bool { return v.Ts > ts })
	}
	return slices.DeleteFunc(cells, func(c api.Cell) bool { return len(c.Versions) == 0 && c.Intent.Txn == 0 })
}

// scans holds Scan to these cells, and that no version is handed out but those.
func scans(t *testing.T, s *Store, lo, hi []byte, ts uint64, want []api.Cell) {
	t.Helper()
	if got := s.Scan(lo, hi, ts); !slices.EqualFunc(got, want, sameCell) {
		t.Errorf("Scan(%q, %q, %d): %v; want %v", lo, hi, ts, got, want)
	}
}

// P12.3: Scan without bounds, at times below, at, between and above those of the
// versions: of keys with an intent alone, versions alone, versions above the
// time alone, and both.
func TestScanAtTimes(t *testing.T) {
	s := mixed(t)
	for _, x := range []struct {
		ts   uint64
		keys int
	}{{0, 3}, {9, 3}, {10, 5}, {19, 5}, {20, 5}, {29, 5}, {30, 5}, {50, 5}, {59, 5}, {60, 6}, {69, 6}, {70, 6}, {math.MaxUint64, 6}} {
		want := cellsUpTo(x.ts)
		counts(t, "keys that are told", len(want), x.keys)
		for _, bounds := range [][2][]byte{{nil, nil}, {{}, {}}, {nil, {}}, {{}, nil}} {
			scans(t, s, bounds[0], bounds[1], x.ts, want)
		}
	}
	scans(t, New(), nil, nil, math.MaxUint64, nil)
}

// P12.3: what a cell is at a time, told out.
func TestScanTellsCells(t *testing.T) {
	s := mixed(t)
	scans(t, s, nil, nil, 25, []api.Cell{
		{Key: []byte(""), Versions: []api.Version{at(10, "empty")}},
		{Key: []byte("a"), Versions: []api.Version{at(20, "a20"), at(10, "a10")}},
		{Key: []byte("c"), Intent: of(1, "c")},
		{Key: []byte("e"), Versions: []api.Version{at(10, "e10")}, Intent: of(2, "e")},
		{Key: []byte("i"), Intent: of(2, "i")},
	})
	scans(t, s, []byte("g"), []byte("h"), 25, nil)
}

// P12.3: Scan with each bound alone and with both, at keys, between them, below
// and above all, and with lo above hi.
func TestScanWithBounds(t *testing.T) {
	s := mixed(t)
	bounds := []string{"", "\x00", "a", "a\x00", "b", "c", "d", "e", "ee", "g", "h", "i", "i\x00", "z", "\xff", "\xff\xff"}
	for _, ts := range []uint64{0, 25, math.MaxUint64} {
		for _, lo := range bounds {
			for _, hi := range bounds {
				want := cellsUpTo(ts)
				want = slices.DeleteFunc(want, func(c api.Cell) bool {
					return string(c.Key) < lo || hi != "" && string(c.Key) >= hi
				})
				scans(t, s, []byte(lo), []byte(hi), ts, want)
			}
		}
	}
	scans(t, s, []byte("c"), nil, 0, cellsUpTo(0))
	scans(t, s, nil, []byte("a"), 10, cellsUpTo(10)[:1])
	scans(t, s, []byte("c"), []byte("c"), 90, nil)
	scans(t, s, []byte("e"), []byte("c"), 90, nil)
}

// P12.3: an intent's own Ts doesn't count: it is told at all times, as it is.
func TestScanTellsIntentsAtAllTimes(t *testing.T) {
	for _, ts := range []uint64{0, 5, math.MaxUint64} {
		s := New()
		v := full()
		v.Ts = ts
		intend(t, s, "k", v)
		for _, at := range []uint64{0, 4, 5, 6, math.MaxUint64} {
			scans(t, s, nil, nil, at, []api.Cell{{Key: []byte("k"), Intent: v}})
		}
	}
}

// P12.3: Scan changes nothing.
func TestScanChangesNothing(t *testing.T) {
	s := mixed(t)
	for range 3 {
		s.Scan(nil, nil, 0)
		s.Scan([]byte("a"), []byte("g"), 25)
		s.Scan([]byte("x"), []byte("y"), math.MaxUint64)
	}
	scans(t, s, nil, nil, math.MaxUint64, cellsUpTo(math.MaxUint64))
	keys(t, "behind Scan", s, "", "a", "c", "e", "g", "i")
}

// P12.3: Keys tells those with a version alone, an intent alone and both, once,
// rising, whatever the versions' times; Dead ones are versions.
func TestKeys(t *testing.T) {
	s := mixed(t)
	keys(t, "keys of all kinds", s, "", "a", "c", "e", "g", "i")
	put(s, "b", dead(0))
	put(s, "h", dead(math.MaxUint64))
	keys(t, "Dead ones", s, "", "a", "b", "c", "e", "g", "h", "i")
}

// P12.3: Keys behind Drop, Turn and Gc: a key is there as long as it has a
// version or an intent.
func TestKeysBehindDropTurnAndGc(t *testing.T) {
	s := mixed(t)
	counts(t, "Drop of 2", s.Drop(2), 2)
	keys(t, "Drop where versions are", s, "", "a", "c", "e", "g", "i")
	counts(t, "Turn of 1", s.Turn(1, 80), 1)
	keys(t, "Turn", s, "", "a", "c", "e", "g", "i")
	intend(t, s, "j", of(3, "j"))
	intend(t, s, "k", of(3, "k"))
	intend(t, s, "a", of(3, "a"))
	keys(t, "Intend", s, "", "a", "c", "e", "g", "i", "j", "k")
	counts(t, "Drop of 3", s.Drop(3), 3)
	keys(t, "Drop where nothing else is", s, "", "a", "c", "e", "g", "i")
	counts(t, "Gc", s.Gc(30), 3)
	keys(t, "Gc of all that a key had", s, "", "c", "e", "g", "i")
	intend(t, s, "l", api.Version{Txn: 4, Dead: true})
	intend(t, s, "m", api.Version{Txn: 4, Dead: true})
	counts(t, "Turn to Dead versions", s.Turn(4, 90), 2)
	keys(t, "Turn to Dead versions", s, "", "c", "e", "g", "i", "l", "m")
	intend(t, s, "m", of(5, "m"))
	counts(t, "Gc", s.Gc(math.MaxUint64), 4)
	keys(t, "Gc where an intent is", s, "", "c", "e", "g", "i", "m")
	counts(t, "Drop of 5", s.Drop(5), 1)
	keys(t, "Drop of the last that a key had", s, "", "c", "e", "g", "i")
	put(s, "m", at(1, "again"))
	keys(t, "a key again", s, "", "c", "e", "g", "i", "m")
}

// P5: Keys may be left at any time, and gone through again.
func TestKeysLeftEarly(t *testing.T) {
	want := []string{"", "a", "c", "e", "g", "i"}
	told := mixed(t).Keys()
	for n := range len(want) + 1 {
		var got []string
		for k := range told {
			if len(got) == n {
				break
			}
			got = append(got, string(k))
		}
		if !slices.Equal(got, want[:n]) {
			t.Errorf("left behind %d: %q, want %q", n, got, want[:n])
		}
	}
	var outer []string
	for a := range told {
		outer = append(outer, string(a))
		var inner []string
		for b := range told {
			inner = append(inner, string(b))
		}
		if !slices.Equal(inner, want) {
			t.Errorf("gone through within itself: %q, want %q", inner, want)
		}
	}
	if !slices.Equal(outer, want) {
		t.Errorf("around itself: %q, want %q", outer, want)
	}
}

// P2: what Keys answered stays what it is, whatever is done to the store later,
// or while it is gone through.
func TestKeysStaysWhileTheStoreChanges(t *testing.T) {
	s := mixed(t)
	told := s.Keys()
	var got []string
	for k := range told {
		got = append(got, string(k))
		put(s, string(k)+"new", at(1, "new"))
		s.Drop(1)
		s.Turn(2, 99)
		s.Gc(math.MaxUint64)
	}
	want := []string{"", "a", "c", "e", "g", "i"}
	if !slices.Equal(got, want) {
		t.Errorf("while the store changes: %q, want %q", got, want)
	}
	got = nil
	for k := range told {
		got = append(got, string(k))
	}
	if !slices.Equal(got, want) {
		t.Errorf("once more: %q, want %q", got, want)
	}
	keys(t, "from now on", s, "", "anew", "cnew", "e", "enew", "g", "gnew", "i", "inew", "new")
}
