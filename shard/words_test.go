package shard

import (
	"bytes"
	"fmt"
	"math"
	"math/rand"
	"slices"
	"testing"

	"plenum/api"
	"plenum/meta"
)

// deed is a command that was done, and what it came to.
type deed struct {
	c api.Command
	r api.Result
}

// fact is that a key has a version, or an intent.
type fact struct {
	key string
	v   api.Version
}

// byWords is a machine as the chapter's words say it: it looks through all that
// was done, and through all that there is.
type byWords struct {
	deeds             []deed
	versions, intents []fact
}

// do does a command; and answers whether it was done now.
func (w *byWords) do(c api.Command) (api.Result, bool) {
	for _, d := range slices.Backward(w.deeds) {
		if c.Client == 0 || d.c.Client != c.Client {
			continue
		}
		if d.c.Seq == c.Seq {
			return d.r, false
		}
		if d.c.Seq > c.Seq {
			return refused(api.ErrRange), false
		}
		break
	}
	r := w.byKind(c)
	w.deeds = append(w.deeds, deed{c, r})
	return r, true
}

func (w *byWords) byKind(c api.Command) api.Result {
	switch c.Kind {
	case 8:
		return refused(w.prepare(c))
	case 9:
		for _, f := range w.take(c.Txn) {
			f.v.Ts = c.Ts
			w.versions = slices.DeleteFunc(w.versions, func(x fact) bool { return x.key == f.key && x.v.Ts == c.Ts })
			w.versions = append(w.versions, f)
		}
		return done
	case 10:
		w.take(c.Txn)
		return done
	case 11:
		return told(w.cells(string(c.Lo), string(c.Hi), c.Ts)...)
	case 12:
		return w.fetch(c)
	case 13:
		w.gc(c.Ts)
		return done
	}
	return refused(api.ErrRange)
}

func (w *byWords) prepare(c api.Command) api.Errno {
	if c.Txn == 0 {
		return api.ErrTxn
	}
	for _, x := range c.Writes {
		if slices.ContainsFunc(w.intents, func(f fact) bool { return f.key == string(x.Key) && f.v.Txn != c.Txn }) {
			return api.ErrBusy
		}
		if c.Flag && slices.ContainsFunc(w.versions, func(f fact) bool { return f.key == string(x.Key) && f.v.Ts > c.Ts }) {
			return api.ErrStale
		}
	}
	for i, x := range c.Writes {
		if slices.ContainsFunc(c.Writes[i+1:], func(y api.Write) bool { return bytes.Equal(x.Key, y.Key) }) {
			continue
		}
		w.intents = slices.DeleteFunc(w.intents, func(f fact) bool { return f.key == string(x.Key) })
		w.intents = append(w.intents, fact{string(x.Key), api.Version{Txn: c.Txn, Dead: x.Dead, Val: x.Val, Keys: c.Keys}})
	}
	return api.OK
}

// take takes the transaction's intents away, and answers them.
func (w *byWords) take(txn uint64) []fact {
	var l []fact
	w.intents = slices.DeleteFunc(w.intents, func(f fact) bool {
		if f.v.Txn == txn {
			l = append(l, f)
		}
		return f.v.Txn == txn
	})
	return l
}

// of answers all versions of a key, the latest ahead, and its intent.
func (w *byWords) of(key string) ([]api.Version, api.Version) {
	var l []api.Version
	for _, f := range w.versions {
		if f.key == key {
			l = append(l, f.v)
		}
	}
	slices.SortFunc(l, func(a, b api.Version) int {
		if a.Ts > b.Ts {
			return -1
		}
		return 1
	})
	for _, f := range w.intents {
		if f.key == key {
			return l, f.v
		}
	}
	return l, no
}

// cells answers what is seen at ts.
func (w *byWords) cells(lo, hi string, ts uint64) []api.Cell {
	var keys []string
	for _, f := range append(slices.Clone(w.versions), w.intents...) {
		if f.key >= lo && (hi == "" || f.key < hi) {
			keys = append(keys, f.key)
		}
	}
	slices.Sort(keys)
	var l []api.Cell
	for _, key := range slices.Compact(keys) {
		versions, intent := w.of(key)
		versions = slices.DeleteFunc(versions, func(v api.Version) bool { return v.Ts > ts })
		if len(versions) > 0 || intent.Txn != 0 {
			l = append(l, cell(key, intent, versions...))
		}
	}
	return l
}

func (w *byWords) fetch(c api.Command) api.Result {
	versions, intent := w.of(string(c.Lo))
	if at := slices.IndexFunc(versions, func(v api.Version) bool { return v.Txn == c.Txn }); at >= 0 {
		return told(cell(string(c.Lo), no, versions[at]))
	}
	if intent.Txn == 0 || intent.Txn != c.Txn {
		return refused(api.ErrNone)
	}
	intent.Ts = c.Ts
	return told(cell(string(c.Lo), no, intent))
}

func (w *byWords) gc(ts uint64) {
	w.versions = slices.DeleteFunc(slices.Clone(w.versions), func(f fact) bool {
		seen, _ := w.of(f.key)
		seen = slices.DeleteFunc(seen, func(v api.Version) bool { return v.Ts > ts })
		return f.v.Ts <= ts && (f.v.Ts < seen[0].Ts || f.v.Dead)
	})
}

// drawn draws commands.
type drawn struct {
	*rand.Rand
	kinds []int
	keys  int
	seqs  map[uint64]uint64 // the greatest that each client told
	ts    uint64            // the latest that something was applied at
}

// key draws a key; now and then the bytes of one that stand somewhere else.
func (d *drawn) key() []byte {
	b := []byte{byte('a' + d.Intn(d.keys))}
	switch d.Intn(12) {
	case 0:
		return append(b, 0)
	case 1:
		return nil
	}
	return b
}

// at draws a Ts around the latest one.
func (d *drawn) at() uint64 {
	if d.Intn(30) == 0 {
		return []uint64{0, 1 << 63, math.MaxUint64}[d.Intn(3)]
	}
	return d.ts - min(d.ts, uint64(d.Intn(6)))
}

// command draws one of a client's, mostly the next one.
func (d *drawn) command() api.Command {
	c := api.Command{Client: uint64(d.Intn(4)), Kind: d.kinds[d.Intn(len(d.kinds))], Txn: uint64(d.Intn(5)), Ts: d.at(), Flag: d.Intn(2) > 0}
	switch d.Intn(9) {
	case 0:
		c.Seq = d.seqs[c.Client] - min(d.seqs[c.Client], uint64(1+d.Intn(3)))
	case 1:
		c.Seq = d.seqs[c.Client]
	default:
		c.Seq = d.seqs[c.Client] + 1 + uint64(d.Intn(2))
		d.seqs[c.Client] = c.Seq
	}
	switch c.Kind {
	case api.CmdPrepare:
		for i := range d.Intn(5) {
			c.Writes = append(c.Writes, api.Write{Key: d.key(), Dead: d.Intn(3) == 0, Val: []byte(fmt.Sprint(c.Seq, ".", i))})
			c.Keys = append(c.Keys, d.key())
		}
	case api.CmdApply:
		if d.Intn(4) > 0 {
			d.ts++
			c.Ts = d.ts
		}
	case api.CmdScan, api.CmdFetch:
		c.Lo, c.Hi = d.key(), d.key()
	}
	if d.Intn(40) == 0 {
		c.Kind = noKinds()[d.Intn(len(noKinds()))]
	}
	return c
}

// intents answers what the machine's transactions are about to write, by key.
func intents(m *Machine) map[string]api.Version {
	l := map[string]api.Version{}
	for _, c := range m.Store().Scan(nil, nil, 0) {
		if c.Intent.Txn != 0 {
			l[string(c.Key)] = c.Intent
		}
	}
	return l
}

// same answers whether two versions are alike.
func same(a, b api.Version) bool {
	return meta.SameResult(told(cell("", a)), told(cell("", b)))
}

// whole asks that what was prepared ahead of the command is still prepared, or
// applied whole, or dropped whole, and what it prepared is there whole (P16.3).
func whole(m *Machine, before map[string]api.Version, c api.Command, e api.Errno, isDone bool) error {
	after := intents(m)
	prepared := map[string]int{}
	for i, w := range c.Writes {
		if isDone && e == api.OK && c.Kind == api.CmdPrepare {
			prepared[string(w.Key)] = i + 1
		}
	}
	for key, at := range prepared {
		w := c.Writes[at-1]
		if !same(after[key], api.Version{Txn: c.Txn, Dead: w.Dead, Val: w.Val, Keys: c.Keys}) {
			return fmt.Errorf("%q: %+v is prepared", key, after[key])
		}
	}
	for key, v := range before {
		ends := isDone && c.Txn == v.Txn && (c.Kind == api.CmdApply || c.Kind == api.CmdDrop)
		if prepared[key] == 0 && (ends && after[key].Txn != 0 || !ends && !same(after[key], v)) {
			return fmt.Errorf("%q: %+v became %+v", key, v, after[key])
		}
		v.Ts = c.Ts
		if is, there := m.Store().At([]byte(key), c.Ts); ends && c.Kind == api.CmdApply && !(there && same(is, v)) {
			return fmt.Errorf("%q: %+v was applied as %+v", key, v, is)
		}
	}
	for key, v := range after {
		if before[key].Txn == 0 && prepared[key] == 0 {
			return fmt.Errorf("%q: %+v was never prepared", key, v)
		}
	}
	return nil
}

// P16.1, P16.3: long drawn runs of all commands answer as the words do, and
// behind each all that there is is as the words have it, and whole.
func TestDrawnRunsAgainstTheWords(t *testing.T) {
	answers := map[api.Errno]int{}
	kinds := [][]int{{8, 9, 10, 11, 12, 13}, {8, 8, 8, 8, 9, 12}, {8, 9}, {8, 8, 9, 9, 9, 10, 11, 12, 13}}
	for seed := range int64(60) {
		d := &drawn{rand.New(rand.NewSource(seed)), kinds[seed%4], []int{3, 6, 20}[seed%3], map[uint64]uint64{}, 0}
		m, w := New(), &byWords{}
		for at := range 400 {
			c, before := d.command(), intents(m)
			got := m.Do(c)
			want, isDone := w.do(c)
			if !meta.SameResult(got, want) {
				t.Fatalf("seed %d, command %d: %+v: %+v, want %+v", seed, at, c, got, want)
			}
			has(t, m, w.cells("", "", math.MaxUint64)...)
			if err := whole(m, before, c, got.Err, isDone); err != nil || t.Failed() {
				t.Fatalf("seed %d, command %d: behind %+v: %v", seed, at, c, err)
			}
			answers[got.Err]++
		}
	}
	for e, least := range map[api.Errno]int{api.OK: 5000, api.ErrRange: 1000, api.ErrNone: 500, api.ErrTxn: 500, api.ErrStale: 500, api.ErrBusy: 1000} {
		if answers[e] < least {
			t.Errorf("%d was answered %d times only: %v", e, answers[e], answers)
		}
	}
}

// P16.1: the same commands taken from their bytes answer the same.
func TestDrawnRunsByBytes(t *testing.T) {
	for seed := range int64(8) {
		d := &drawn{rand.New(rand.NewSource(seed)), []int{8, 9, 10, 11, 12, 13}, 5, map[uint64]uint64{}, 0}
		a, b := New(), New()
		for at := range 300 {
			c := d.command()
			read, e := meta.OfCommand(meta.PutCommand(c))
			if e != api.OK {
				t.Fatalf("%+v: %d", c, e)
			}
			if x, y := a.Do(c), b.Do(read); !meta.SameResult(x, y) {
				t.Fatalf("seed %d, command %d: %+v and %+v", seed, at, x, y)
			}
		}
		if all(a) != all(b) {
			t.Fatalf("seed %d: %s and %s", seed, all(a), all(b))
		}
	}
}
