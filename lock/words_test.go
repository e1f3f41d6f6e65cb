package lock

import (
	"fmt"
	"math"
	"math/rand"
	"slices"
	"testing"

	"plenum/api"
)

// keys are all that bounds are drawn from, rising, and one behind all of them:
// two locks over such bounds meet just if they have one of these in common.
var keys = []string{"", "\x00", "a", "a\x00", "aa", "b", "ba", "c", "c\xff", "d", "m", "\xfe", "\xff", "\xff\xff", "\xff\xff\xff"}

// record is a lock that somebody holds or waits for, its keys, and when that
// began.
type record struct {
	l     api.Lock
	keys  uint32
	holds bool
	since int
}

// byWords is a table as the chapter's words say it: all that is held and waited
// for in one list, in no order.
type byWords struct {
	records []record
	time    int
}

// keysOf answers which of all keys the lock has, each as a bit.
func keysOf(l api.Lock) uint32 {
	var set uint32
	for i, k := range keys {
		if string(l.Lo) <= k && (len(l.Hi) == 0 || k < string(l.Hi)) {
			set |= 1 << i
		}
	}
	return set
}

// together answers whether two transactions may hold such modes at once.
func together(a, b int) bool {
	switch a {
	case api.IS:
		return b != api.X
	case api.IX:
		return b == api.IS || b == api.IX
	case api.S:
		return b == api.IS || b == api.S
	}
	return false
}

// asGood answers whether mode a is b, X, or S or IX of an IS.
func asGood(a, b int) bool {
	return a == b || a == api.X || b == api.IS && (a == api.S || a == api.IX)
}

// told answers those that are held, or those that are waited for, as they came.
func (w *byWords) told(holds bool) []record {
	var l []record
	for _, r := range w.records {
		if r.holds == holds {
			l = append(l, r)
		}
	}
	slices.SortFunc(l, func(a, b record) int { return a.since - b.since })
	return l
}

// locks answers the same without when that began.
func (w *byWords) locks(holds bool) []api.Lock {
	var l []api.Lock
	for _, r := range w.told(holds) {
		l = append(l, r.l)
	}
	return l
}

// remove takes away the records of which it holds.
func (w *byWords) remove(is func(r record) bool) {
	w.records = slices.DeleteFunc(w.records, is)
}

// add lets the lock be held, or waited for, from now on.
func (w *byWords) add(l api.Lock, holds bool) {
	w.time++
	w.records = append(w.records, record{l, keysOf(l), holds, w.time})
}

// way answers whose locks, of those that are told, stand in the way of l, which
// waits since then.
func (w *byWords) way(l api.Lock, since int, told []record) []uint64 {
	meets, own := keysOf(l), false
	for _, r := range w.records {
		own = own || r.holds && r.l.Txn == l.Txn && r.l.Level == l.Level && r.keys&meets != 0
	}
	var whose []uint64
	for _, r := range told {
		counts := r.holds || !own && r.since < since
		clash := r.l.Txn != l.Txn && r.l.Level == l.Level && r.keys&meets != 0 && !together(r.l.Mode, l.Mode)
		if counts && clash && !slices.Contains(whose, r.l.Txn) {
			whose = append(whose, r.l.Txn)
		}
	}
	return whose
}

// all answers those that are held, and behind them those that are waited for.
func (w *byWords) all() []record {
	return append(w.told(true), w.told(false)...)
}

func (w *byWords) edges() []api.Edge {
	var l []api.Edge
	all := w.all()
	for _, r := range w.told(false) {
		for _, to := range w.way(r.l, r.since, all) {
			l = append(l, api.Edge{From: r.l.Txn, To: to})
		}
	}
	return l
}

// mayBeAsked answers whether a lock isn't ErrRange.
func mayBeAsked(l api.Lock) bool {
	return l.Txn > 0 && (l.Level == 0 || l.Level == 1) && slices.Contains([]int{1, 2, 3, 4}, l.Mode) &&
		(len(l.Hi) == 0 || string(l.Hi) > string(l.Lo))
}

func (w *byWords) ask(l api.Lock) (bool, api.Errno) {
	if !mayBeAsked(l) {
		return false, api.ErrRange
	}
	for _, h := range w.locks(true) {
		if h.Txn == l.Txn && h.Level == l.Level && keysOf(l)&^keysOf(h) == 0 && asGood(h.Mode, l.Mode) {
			return true, api.OK
		}
	}
	waits := func(r record) bool { return !r.holds && r.l.Txn == l.Txn }
	w.remove(func(r record) bool { return waits(r) && !sameLock(r.l, l) })
	since := math.MaxInt
	if i := slices.IndexFunc(w.records, waits); i >= 0 {
		since = w.records[i].since
	}
	if len(w.way(l, since, w.all())) == 0 {
		w.remove(waits)
		if len(w.locks(true)) == 400 {
			return false, api.ErrLocks
		}
		w.add(l, true)
		return true, api.OK
	}
	if since == math.MaxInt {
		w.add(l, false)
	}
	if slices.Contains(inRings(w.edges()), l.Txn) {
		w.remove(waits)
		return false, api.ErrDeadlock
	}
	return false, api.OK
}

func (w *byWords) free(txn uint64) int {
	n := 0
	for _, h := range w.locks(true) {
		if h.Txn == txn {
			n++
		}
	}
	w.remove(func(r record) bool { return r.l.Txn == txn })
	return n
}

// inRings answers who can't be taken away, where those are that wait for nobody,
// or whom nobody waits for.
func inRings(l []api.Edge) []uint64 {
	l = slices.Clone(l)
	for {
		from, to := map[uint64]bool{}, map[uint64]bool{}
		for _, e := range l {
			from[e.From], to[e.To] = true, true
		}
		n := len(l)
		l = slices.DeleteFunc(l, func(e api.Edge) bool { return !from[e.To] || !to[e.From] })
		if len(l) == n {
			break
		}
	}
	var nodes []uint64
	for _, e := range l {
		nodes = append(nodes, e.From)
	}
	return nodes
}

// sameLock answers whether two locks are alike in all fields.
func sameLock(a, b api.Lock) bool {
	return a.Txn == b.Txn && a.Level == b.Level && a.Mode == b.Mode && string(a.Lo) == string(b.Lo) && string(a.Hi) == string(b.Hi)
}

// drawn is what a run's draws come from: of how many transactions, how often
// locks are free again, and which modes are frequent.
type drawn struct {
	*rand.Rand
	txns  int
	frees int // one call in so many is a Free
	modes []int
}

func (d drawn) txn() uint64 {
	if d.Intn(300) == 0 {
		return []uint64{0, 1<<32 + 1, math.MaxUint64}[d.Intn(3)]
	}
	return 1 + uint64(d.Intn(d.txns))
}

// lock draws one; now and then one that can't be.
func (d drawn) lock() api.Lock {
	l := api.Lock{Txn: d.txn(), Level: d.Intn(2), Mode: d.modes[d.Intn(len(d.modes))]}
	lo := d.Intn(len(keys) - 1)
	hi := min(lo+1+d.Intn(4), len(keys)-2)
	l.Lo, l.Hi = []byte(keys[lo]), []byte(keys[hi])
	switch d.Intn(60) {
	case 0:
		l.Level = []int{-1, 2, math.MinInt}[d.Intn(3)]
	case 1:
		l.Mode = numbers[d.Intn(len(numbers))]
	case 2:
		l.Hi, l.Lo = l.Lo, l.Hi
	case 3, 4, 5:
		l.Hi = nil
	case 6, 7:
		l.Lo, l.Hi = nil, []byte{}
	}
	return l
}

// both is a table and the words, to which the same is done.
type both struct {
	t *Table
	w *byWords
}

// step does one drawn call to both, holds the answers against each other, and
// answers what Ask answered.
func (p both) step(d drawn) (string, error) {
	if d.Intn(d.frees) == 0 {
		txn := d.txn()
		if got, want := p.t.Free(txn), p.w.free(txn); got != want {
			return "", fmt.Errorf("Free(%d): %d, want %d", txn, got, want)
		}
		return "", nil
	}
	l := d.lock()
	if waiting := p.t.Waiting(); len(waiting) > 0 && d.Intn(3) == 0 {
		l = waiting[d.Intn(len(waiting))]
	}
	got, want := answer(p.t.Ask(l)), answer(p.w.ask(l))
	if got != want {
		return "", fmt.Errorf("Ask(%v): %s, want %s", l, got, want)
	}
	return got, nil
}

// alike holds all that the table has to the words, and to P14.4 and P14.5.
func (p both) alike() error {
	held, waiting, edges := p.t.Held(), p.t.Waiting(), p.t.Edges()
	if want := p.w.locks(true); !slices.EqualFunc(held, want, sameLock) {
		return fmt.Errorf("held: %v; want %v", held, want)
	}
	if want := p.w.locks(false); !slices.EqualFunc(waiting, want, sameLock) {
		return fmt.Errorf("waiting: %v; want %v", waiting, want)
	}
	if want := p.w.edges(); !slices.Equal(edges, want) {
		return fmt.Errorf("edges: %v; want %v", edges, want)
	}
	all := p.w.told(true)
	for i, a := range all {
		for _, b := range all[:i] {
			apart := a.l.Txn == b.l.Txn || a.l.Level != b.l.Level || a.keys&b.keys == 0
			if !apart && !together(a.l.Mode, b.l.Mode) {
				return fmt.Errorf("%v and %v are held together", a.l, b.l)
			}
			if apart != Apart(a.l, b.l) || !apart && !Fits(a.l.Mode, b.l.Mode) {
				return fmt.Errorf("of %v and %v Apart is %v, Fits %v", a.l, b.l, Apart(a.l, b.l), Fits(a.l.Mode, b.l.Mode))
			}
		}
	}
	if nodes := inRings(edges); len(nodes) > 0 {
		return fmt.Errorf("%v wait for each other in a ring: %v", nodes, edges)
	}
	return nil
}

// run does so many drawn calls, holds the table to the words behind each, and
// counts the answers.
func (p both) run(t *testing.T, d drawn, count int, answers map[string]int) {
	t.Helper()
	for at := range count {
		got, err := p.step(d)
		if err == nil {
			err = p.alike()
		}
		if err != nil {
			t.Fatalf("call %d: %v", at, err)
		}
		answers[got]++
	}
}

// P14.1 to P14.5: long drawn runs of all calls answer as the words do, with few
// transactions and with many.
func TestDrawnRunsAgainstTheWords(t *testing.T) {
	answers := map[string]int{}
	modes := [][]int{{1, 2, 3, 4}, {1, 1, 2, 2, 3, 4}, {3, 4}, {1, 2, 3}}
	for seed := range int64(48) {
		d := drawn{rand.New(rand.NewSource(seed)), []int{2, 3, 5, 9, 20, 60}[seed%6], []int{8, 20, 60}[seed/6%3], modes[seed%4]}
		both{New(), &byWords{}}.run(t, d, 600, answers)
	}
	for _, want := range []string{"true", "false", "deadlock", "range", ""} {
		if answers[want] < 300 {
			t.Errorf("%q was answered %d times only: %v", want, answers[want], answers)
		}
	}
}

// P14.2, P14.4: runs in which 400 locks are held, most of them such as fit.
func TestDrawnRunsThatAreFull(t *testing.T) {
	answers := map[string]int{}
	for seed := range int64(3) {
		p := both{New(), &byWords{}}
		fill := drawn{rand.New(rand.NewSource(100 + seed)), 150, 1 << 30, []int{api.IS, api.S}}
		for len(p.w.records) < 380 {
			if _, err := p.step(fill); err != nil {
				t.Fatal(err)
			}
		}
		most := drawn{fill.Rand, 150, 60, []int{1, 1, 1, 1, 1, 1, 1, 1, 1, 1, 3, 3, 3, 3, 3, 3, 3, 3, 3, 3, 2, 4}}
		p.run(t, most, 300, answers)
	}
	if answers["locks"] < 30 || answers["false"] < 30 || answers["true"] < 30 {
		t.Errorf("too few of some answers: %v", answers)
	}
}

// P3: the same calls answer the same.
func TestTheSameCallsAnswerTheSame(t *testing.T) {
	for seed := range int64(6) {
		first, second := New(), New()
		a := drawn{rand.New(rand.NewSource(seed)), 9, 20, []int{1, 2, 3, 4}}
		b := drawn{rand.New(rand.NewSource(seed)), 9, 20, []int{1, 2, 3, 4}}
		for at := range 400 {
			if a.Intn(20) == 0 {
				first.Free(a.txn())
			} else {
				first.Ask(a.lock())
			}
			if b.Intn(20) == 0 {
				second.Free(b.txn())
			} else {
				second.Ask(b.lock())
			}
			if x, y := edgeTexts(first.Edges())+texts(first.Held()), edgeTexts(second.Edges())+texts(second.Held()); x != y {
				t.Fatalf("seed %d, call %d: %s and %s", seed, at, x, y)
			}
		}
	}
}
