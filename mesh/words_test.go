package mesh

import (
	"bytes"
	"fmt"
	"math"
	"math/rand"
	"slices"
	"testing"

	"plenum/api"
)

// same answers whether the messages say the same; no list and an empty one are
// the same.
func same(a, b api.Msg) bool {
	if !slices.EqualFunc(a.Entries, b.Entries, sameEntry) || !sameSnap(a.Snap, b.Snap) {
		return false
	}
	return a.Kind == b.Kind && a.From == b.From && a.To == b.To && a.Term == b.Term && a.Index == b.Index &&
		a.LogTerm == b.LogTerm && a.Commit == b.Commit && a.Hint == b.Hint && a.Reject == b.Reject
}

func sameEntry(a, b api.Entry) bool {
	return a.Index == b.Index && a.Term == b.Term && a.Kind == b.Kind && bytes.Equal(a.Data, b.Data)
}

func sameSnap(a, b api.Snap) bool {
	return a.Index == b.Index && a.Term == b.Term && slices.Equal(a.Members, b.Members) && bytes.Equal(a.Data, b.Data)
}

// byWords is a mesh as the chapter's words say it: what waits stands in the
// order in which it was sent.
type byWords struct {
	fates []api.Fate
	sent  int
	now   int
	cut   []line
	waits []held
}

// held is a message that waits, and when it is due.
type held struct {
	due int
	msg api.Msg
}

func (w *byWords) isCut(a, b uint64) bool {
	return slices.Contains(w.cut, line{a, b}) || slices.Contains(w.cut, line{b, a})
}

func (w *byWords) send(l []api.Msg) {
	for _, x := range l {
		f := api.Fate{Times: 1, Delay: 0}
		if w.sent < len(w.fates) {
			f = w.fates[w.sent]
		}
		w.sent++
		if w.isCut(x.From, x.To) {
			continue
		}
		if f.Times > 3 {
			f.Times = 3
		}
		if f.Delay < 0 {
			f.Delay = 0
		}
		if f.Delay > 100 {
			f.Delay = 100
		}
		for i := 1; i <= f.Times; i++ {
			w.waits = append(w.waits, held{w.now + f.Delay, x})
		}
	}
}

func (w *byWords) next() (api.Msg, bool) {
	first := -1
	for i, h := range w.waits {
		if h.due <= w.now && (first < 0 || h.due < w.waits[first].due) {
			first = i
		}
	}
	if first < 0 {
		return api.Msg{}, false
	}
	x := w.waits[first].msg
	w.waits = slices.Delete(w.waits, first, first+1)
	return x, true
}

func (w *byWords) setCut(a, b uint64, cut bool) {
	w.cut = slices.DeleteFunc(w.cut, func(l line) bool { return l == line{a, b} || l == line{b, a} })
	if cut {
		w.cut = append(w.cut, line{a, b})
	}
}

// drawn is where a run's draws come from.
type drawn struct{ *rand.Rand }

func (d drawn) bytes() []byte {
	b := make([]byte, d.Intn(6))
	d.Read(b)
	return b
}

// fate draws one whose numbers are often beyond their bounds; delays of up to
// most are the most frequent.
func (d drawn) fate(most int) api.Fate {
	f := api.Fate{Times: d.Intn(7) - 2, Delay: d.Intn(most + 1)}
	switch d.Intn(12) {
	case 0:
		f.Delay = []int{math.MinInt, -1, 99, 100, 101, math.MaxInt}[d.Intn(6)]
	case 1:
		f.Times = []int{math.MinInt, math.MaxInt}[d.Intn(2)]
	}
	return f
}

func (d drawn) fates(most int) []api.Fate {
	var l []api.Fate
	for range []int{0, 3, 200, 3000}[d.Intn(4)] {
		l = append(l, d.fate(most))
	}
	return l
}

// msg draws a message between two of a few nodes, told apart by that number.
func (d drawn) msg(number uint64) api.Msg {
	x := api.Msg{Kind: d.Intn(6), From: uint64(d.Intn(4)), To: uint64(d.Intn(4)), Index: number, Term: d.Uint64(), Reject: d.Intn(2) == 0}
	for range d.Intn(3) {
		x.Entries = append(x.Entries, api.Entry{Index: d.Uint64(), Kind: d.Intn(2), Data: d.bytes()})
	}
	if d.Intn(4) == 0 {
		x.Snap = api.Snap{Index: d.Uint64(), Members: []uint64{d.Uint64(), d.Uint64()}, Data: d.bytes()}
	}
	return x
}

// pairRun is a mesh and the words, to which the same is done.
type pairRun struct {
	m    *Mesh
	w    *byWords
	sent uint64
}

// step does one drawn call to both, and holds the answers against each other.
func (p *pairRun) step(d drawn) error {
	what := ""
	switch d.Intn(9) {
	case 0, 1:
		var l []api.Msg
		for range d.Intn(4) {
			l = append(l, d.msg(p.sent))
			p.sent++
		}
		what = fmt.Sprintf("Send of %v", l)
		p.m.Send(l...)
		p.w.send(l)
	case 2, 3, 4, 5:
		what = "Next"
		x, is := p.m.Next()
		want, wantIs := p.w.next()
		if is != wantIs || !same(x, want) {
			return fmt.Errorf("Next: %v, %v; want %v, %v", x, is, want, wantIs)
		}
	case 6, 7:
		what = "Tick"
		p.m.Tick()
		p.w.now++
	case 8:
		a, b, cut := uint64(d.Intn(4)), uint64(d.Intn(4)), d.Intn(3) == 0
		what = fmt.Sprintf("Cut(%d, %d, %v)", a, b, cut)
		p.m.Cut(a, b, cut)
		p.w.setCut(a, b, cut)
	}
	if got := p.m.Waiting(); got != len(p.w.waits) {
		return fmt.Errorf("%s: %d wait, want %d", what, got, len(p.w.waits))
	}
	return nil
}

// P10.1 to P10.3: long drawn runs of all calls answer as the words do, with
// delays that seldom hold back and with long ones.
func TestDrawnRunsAgainstTheWords(t *testing.T) {
	for seed := range int64(120) {
		d := drawn{rand.New(rand.NewSource(seed))}
		fates := d.fates([]int{0, 2, 10, 110}[seed%4])
		p := &pairRun{New(fates...), &byWords{fates: fates}, 0}
		for at := range 2500 {
			if err := p.step(d); err != nil {
				t.Fatalf("seed %d, call %d: %v", seed, at, err)
			}
		}
		if err := p.empty(); err != nil {
			t.Fatalf("seed %d, at the end: %v", seed, err)
		}
	}
}

// empty takes all that waits from both, in order.
func (p *pairRun) empty() error {
	for range 102 {
		for {
			x, is := p.m.Next()
			want, wantIs := p.w.next()
			if is != wantIs || !same(x, want) {
				return fmt.Errorf("Next: %v, %v; want %v, %v", x, is, want, wantIs)
			}
			if !is {
				break
			}
		}
		p.m.Tick()
		p.w.now++
	}
	if p.m.Waiting() != 0 || len(p.w.waits) != 0 {
		return fmt.Errorf("%d wait, and %d by the words", p.m.Waiting(), len(p.w.waits))
	}
	return nil
}

// P3: the same calls answer the same, and no list and an empty one are the same.
func TestTheSameCallsAnswerTheSame(t *testing.T) {
	for seed := range int64(20) {
		a, b := drawn{rand.New(rand.NewSource(seed))}, drawn{rand.New(rand.NewSource(seed))}
		fates := a.fates(5)
		b.fates(5)
		p, q := &pairRun{New(fates...), &byWords{fates: fates}, 0}, &pairRun{New(fates...), &byWords{fates: fates}, 0}
		for at := range 800 {
			if e, f := p.step(a), q.step(b); e != nil || f != nil {
				t.Fatalf("seed %d, call %d: %v, %v", seed, at, e, f)
			}
			if p.m.Waiting() != q.m.Waiting() {
				t.Fatalf("seed %d, call %d: %d and %d wait", seed, at, p.m.Waiting(), q.m.Waiting())
			}
		}
	}
	m := New([]api.Fate{}...)
	m.Send(api.Msg{Entries: []api.Entry{}, Snap: api.Snap{Members: []uint64{}, Data: []byte{}}})
	if x, is := m.Next(); !is || !same(x, api.Msg{}) {
		t.Errorf("a message of empty lists: %v, %v", x, is)
	}
}
