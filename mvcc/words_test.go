package mvcc

import (
	"fmt"
	"math"
	"math/rand"
	"slices"
	"testing"

	"plenum/api"
	"plenum/okey"
)

// kept is a version, or an intent, and its key.
type kept struct {
	key string
	v   api.Version
}

// byWords is a store as the chapter's words say it: all versions and all intents
// in lists, in no order.
type byWords struct {
	versions []kept
	intents  []kept
}

func (w *byWords) put(key string, v api.Version) {
	w.versions = slices.DeleteFunc(w.versions, func(x kept) bool { return x.key == key && x.v.Ts == v.Ts })
	w.versions = append(w.versions, kept{key, v})
}

// of answers the key's versions that aren't above ts, the greatest Ts ahead.
func (w *byWords) of(key string, ts uint64) []api.Version {
	var l []api.Version
	for _, x := range w.versions {
		if x.key == key && x.v.Ts <= ts {
			l = append(l, x.v)
		}
	}
	slices.SortFunc(l, func(a, b api.Version) int {
		if a.Ts > b.Ts {
			return -1
		}
		return 1
	})
	return l
}

func (w *byWords) at(key string, ts uint64) (api.Version, bool) {
	if l := w.of(key, ts); len(l) > 0 {
		return l[0], true
	}
	return api.Version{}, false
}

func (w *byWords) intend(key string, v api.Version) api.Errno {
	if v.Txn == 0 {
		return api.ErrTxn
	}
	for i, x := range w.intents {
		if x.key == key && x.v.Txn != v.Txn {
			return api.ErrTxn
		}
		if x.key == key {
			w.intents[i].v = v
			return api.OK
		}
	}
	w.intents = append(w.intents, kept{key, v})
	return api.OK
}

func (w *byWords) intentsOf(txn uint64) []string {
	var l []string
	for _, x := range w.intents {
		if x.v.Txn == txn {
			l = append(l, x.key)
		}
	}
	slices.Sort(l)
	return l
}

func (w *byWords) drop(txn uint64) int {
	n := len(w.intents)
	w.intents = slices.DeleteFunc(w.intents, func(x kept) bool { return x.v.Txn == txn })
	return n - len(w.intents)
}

func (w *byWords) turn(txn, ts uint64) int {
	for _, x := range w.intents {
		if x.v.Txn == txn {
			x.v.Ts = ts
			w.put(x.key, x.v)
		}
	}
	return w.drop(txn)
}

func (w *byWords) keys() []string {
	var l []string
	for _, x := range slices.Concat(w.versions, w.intents) {
		if !slices.Contains(l, x.key) {
			l = append(l, x.key)
		}
	}
	slices.Sort(l)
	return l
}

func (w *byWords) scan(lo, hi []byte, ts uint64) []api.Cell {
	var l []api.Cell
	for _, key := range w.keys() {
		c := api.Cell{Key: []byte(key), Versions: w.of(key, ts)}
		for _, x := range w.intents {
			if x.key == key {
				c.Intent = x.v
			}
		}
		if okey.Within(c.Key, lo, hi) && (len(c.Versions) > 0 || c.Intent.Txn != 0) {
			l = append(l, c)
		}
	}
	return l
}

func (w *byWords) gc(ts uint64) int {
	n := 0
	for _, key := range w.keys() {
		told, is := w.at(key, ts)
		if !is {
			continue
		}
		all := len(w.versions)
		w.versions = slices.DeleteFunc(w.versions, func(x kept) bool {
			return x.key == key && (x.v.Ts < told.Ts || x.v.Ts == told.Ts && told.Dead)
		})
		n += all - len(w.versions)
	}
	return n
}

// drawn is where a run's draws come from; span is how many times there are, but
// for the greatest ones.
type drawn struct {
	*rand.Rand
	span int
}

// bytes draws few ones: keys are often the same.
func (d drawn) bytes() []byte {
	b := make([]byte, d.Intn(3))
	for i := range b {
		b[i] = []byte{0, 'a', 0x80, 0xff}[d.Intn(4)]
	}
	return b
}

func (d drawn) ts() uint64 {
	if d.Intn(20) == 0 {
		return []uint64{1 << 63, math.MaxUint64 - 1, math.MaxUint64}[d.Intn(3)]
	}
	return uint64(d.Intn(d.span))
}

func (d drawn) txn() uint64 {
	return []uint64{0, 1, 2, 3, 4, math.MaxUint64}[d.Intn(6)]
}

// version draws one; Dead ones are frequent.
func (d drawn) version() api.Version {
	v := api.Version{Ts: d.ts(), Txn: d.txn(), Dead: d.Intn(3) == 0, Val: d.bytes()}
	for range d.Intn(3) {
		v.Keys = append(v.Keys, d.bytes())
	}
	return v
}

// both is a store and the words, to which the same is done.
type both struct {
	s *Store
	w *byWords
}

// step does one drawn call to both, and holds the answers against each other.
func (p both) step(d drawn) error {
	key, v, ts, txn := d.bytes(), d.version(), d.ts(), d.txn()
	switch d.Intn(14) {
	case 0, 1, 2, 3:
		p.s.Put(key, v)
		p.w.put(string(key), v)
	case 4, 5, 6, 7:
		if got, want := p.s.Intend(key, v), p.w.intend(string(key), v); got != want {
			return fmt.Errorf("Intend(%q, %v): %d, want %d", key, v, got, want)
		}
	case 8:
		if got, want := p.s.Turn(txn, ts), p.w.turn(txn, ts); got != want {
			return fmt.Errorf("Turn(%d, %d): %d, want %d", txn, ts, got, want)
		}
	case 9:
		if got, want := p.s.Drop(txn), p.w.drop(txn); got != want {
			return fmt.Errorf("Drop(%d): %d, want %d", txn, got, want)
		}
	case 10:
		if d.Intn(4) == 0 {
			return p.gc(ts)
		}
	case 11:
		v, is := p.s.At(key, ts)
		if want, wantIs := p.w.at(string(key), ts); is != wantIs || !same(v, want) {
			return fmt.Errorf("At(%q, %d): %v, %v; want %v, %v", key, ts, v, is, want, wantIs)
		}
	default:
		lo, hi := d.bytes(), d.bytes()
		if got, want := p.s.Scan(lo, hi, ts), p.w.scan(lo, hi, ts); !slices.EqualFunc(got, want, sameCell) {
			return fmt.Errorf("Scan(%q, %q, %d): %v; want %v", lo, hi, ts, got, want)
		}
	}
	return nil
}

// gc does Gc to both, and holds all reads from ts on to what they were ahead of
// it (P12.5).
func (p both) gc(ts uint64) error {
	probes := p.w.keys()
	times := []uint64{ts, math.MaxUint64}
	for _, x := range p.w.versions {
		if x.v.Ts >= ts {
			times = append(times, x.v.Ts)
		}
	}
	ahead := p.reads(probes, times)
	if got, want := p.s.Gc(ts), p.w.gc(ts); got != want {
		return fmt.Errorf("Gc(%d): %d, want %d", ts, got, want)
	}
	for i, now := range p.reads(probes, times) {
		gone := len(now) == 0 && len(ahead[i]) == 1 && ahead[i][0].Dead
		if !gone && !slices.EqualFunc(now, ahead[i], same) {
			return fmt.Errorf("behind Gc(%d) %v is read, ahead of it %v", ts, now, ahead[i])
		}
	}
	return nil
}

// reads answers what At tells of each key at each time: one version or none.
func (p both) reads(keys []string, times []uint64) [][]api.Version {
	var l [][]api.Version
	for _, key := range keys {
		for _, ts := range times {
			v, is := p.s.At([]byte(key), ts)
			if is {
				l = append(l, []api.Version{v})
			} else {
				l = append(l, nil)
			}
		}
	}
	return l
}

// alike holds all that the store has to the words.
func (p both) alike() error {
	if got, want := p.s.Scan(nil, nil, math.MaxUint64), p.w.scan(nil, nil, math.MaxUint64); !slices.EqualFunc(got, want, sameCell) {
		return fmt.Errorf("the store has %v; want %v", got, want)
	}
	var got []string
	for k := range p.s.Keys() {
		got = append(got, string(k))
	}
	if want := p.w.keys(); !slices.Equal(got, want) {
		return fmt.Errorf("the keys are %q, want %q", got, want)
	}
	for _, txn := range []uint64{0, 1, 2, 3, 4, 5, math.MaxUint64} {
		var got []string
		for _, k := range p.s.Intents(txn) {
			got = append(got, string(k))
		}
		if want := p.w.intentsOf(txn); !slices.Equal(got, want) {
			return fmt.Errorf("the intents of %d are at %q, want %q", txn, got, want)
		}
	}
	return nil
}

// P12.1 to P12.5: long drawn runs of all calls answer as the words do, with few
// times and with many.
func TestDrawnRunsAgainstTheWords(t *testing.T) {
	for seed := range int64(60) {
		d := drawn{rand.New(rand.NewSource(seed)), []int{2, 8, 40, 1000}[seed%4]}
		p := both{New(), &byWords{}}
		for at := range 1500 {
			err := p.step(d)
			if err == nil && at%10 == 0 {
				err = p.alike()
			}
			if err != nil {
				t.Fatalf("seed %d, call %d: %v", seed, at, err)
			}
		}
		if err := p.alike(); err != nil {
			t.Fatalf("seed %d, at the end: %v", seed, err)
		}
	}
}

// P3: the same calls answer the same, and no list and an empty one are the same.
func TestTheSameCallsAnswerTheSame(t *testing.T) {
	for seed := range int64(10) {
		a, b := drawn{rand.New(rand.NewSource(seed)), 9}, drawn{rand.New(rand.NewSource(seed)), 9}
		p, q := both{New(), &byWords{}}, both{New(), &byWords{}}
		for at := range 300 {
			if e, f := p.step(a), q.step(b); e != nil || f != nil {
				t.Fatalf("seed %d, call %d: %v, %v", seed, at, e, f)
			}
			if x, y := p.s.Scan(nil, []byte{}, math.MaxUint64), q.s.Scan([]byte{}, nil, math.MaxUint64); !slices.EqualFunc(x, y, sameCell) {
				t.Fatalf("seed %d, call %d: %v and %v", seed, at, x, y)
			}
		}
	}
	s := New()
	s.Put([]byte{}, api.Version{Ts: 1, Val: []byte{}, Keys: [][]byte{}})
	if v, is := s.At(nil, 1); !is || !same(v, api.Version{Ts: 1}) {
		t.Errorf("a version of empty lists: %v, %v", v, is)
	}
}
