package ramp

import (
	"bytes"
	"cmp"
	"math/rand"
	"slices"
	"testing"

	"plenum/api"
)

// ask is that a key must be read with at least the Ts of the one who asks.
type ask struct {
	key []byte
	of  api.Seen
}

// byWords answers what Choose must, as the chapter's words say it: it looks
// through all that there is, over and over.
func byWords(seen []api.Seen, s api.Span, cells []api.Cell) (got, need []api.Seen) {
	var chosen []api.Seen
	for _, c := range cells {
		x := api.Seen{Key: c.Key}
		i := slices.IndexFunc(c.Versions, func(v api.Version) bool { return !barredByWords(seen, v) })
		if i >= 0 {
			x.Ts, x.Txn, x.Keys = c.Versions[i].Ts, c.Versions[i].Txn, c.Versions[i].Keys
		}
		chosen = append(chosen, x)
	}
	asks := asked(chosen, s, chosen)
	asks = append(asks, asked(seen, s, chosen)...)
	// Who asks for the greatest Ts comes first; among them, who asked first.
	slices.SortStableFunc(asks, func(a, b ask) int { return cmp.Compare(b.of.Ts, a.of.Ts) })
	for _, a := range asks {
		if !has(need, a.key) {
			a.of.Key = a.key
			need = append(need, a.of)
		}
	}
	slices.SortFunc(need, func(a, b api.Seen) int { return bytes.Compare(a.Key, b.Key) })
	for _, x := range chosen {
		if !has(need, x.Key) {
			got = append(got, x)
		}
	}
	return got, need
}

// asked answers what some ask for that isn't met by what was chosen.
func asked(by []api.Seen, s api.Span, chosen []api.Seen) []ask {
	var l []ask
	for _, x := range by {
		for _, k := range x.Keys {
			inside := bytes.Compare(k, s.Lo) >= 0 && (len(s.Hi) == 0 || bytes.Compare(k, s.Hi) < 0)
			lesser := slices.ContainsFunc(chosen, func(y api.Seen) bool { return bytes.Equal(y.Key, k) && y.Ts < x.Ts })
			if inside && (lesser || !has(chosen, k)) {
				l = append(l, ask{k, x})
			}
		}
	}
	return l
}

func has(l []api.Seen, key []byte) bool {
	return slices.ContainsFunc(l, func(x api.Seen) bool { return bytes.Equal(x.Key, key) })
}

func barredByWords(seen []api.Seen, v api.Version) bool {
	for _, x := range seen {
		for _, k := range v.Keys {
			if bytes.Equal(k, x.Key) && x.Ts < v.Ts {
				return true
			}
		}
	}
	return false
}

// someKeys are those that are drawn: few, so that they meet.
var someKeys = []string{"", "a", "a\x00", "b", "c", "\xff"}

func drawKey(r *rand.Rand) string {
	return someKeys[r.Intn(len(someKeys))]
}

func drawKeys(r *rand.Rand) []string {
	var l []string
	for range r.Intn(4) {
		l = append(l, drawKey(r))
	}
	return l
}

func drawTs(r *rand.Rand) uint64 {
	return []uint64{0, 1, 2, 3, 4, 5, greatest - 1, greatest}[r.Intn(8)]
}

func drawSeen(r *rand.Rand) api.Seen {
	if r.Intn(4) == 0 {
		return none(drawKey(r))
	}
	return by(uint64(r.Intn(5)), saw(drawKey(r), drawTs(r), drawKeys(r)...))
}

func drawSpan(r *rand.Rand) api.Span {
	if r.Intn(2) == 0 {
		return span(drawKey(r), "")
	}
	return span(drawKey(r), drawKey(r))
}

// drawCells draws cells of whatever keys, with versions that mostly fall.
func drawCells(r *rand.Rand) []api.Cell {
	var l []api.Cell
	for range r.Intn(6) {
		c := cell(drawKey(r))
		for range r.Intn(5) {
			v := of(drawTs(r), drawKeys(r)...)
			v.Txn, v.Dead = uint64(r.Intn(5)), r.Intn(5) == 0
			c.Versions = append(c.Versions, v)
		}
		if r.Intn(4) > 0 {
			slices.SortStableFunc(c.Versions, func(a, b api.Version) int { return cmp.Compare(b.Ts, a.Ts) })
		}
		c.Intent = of(drawTs(r), drawKeys(r)...)
		l = append(l, c)
	}
	return l
}

// P17.1, P17.2, P3: of whatever is drawn, the calls answer as the chapter's words
// say it, and the same when they are asked again; P17.4 is asked of each that
// keeps its conditions.
func TestByWords(t *testing.T) {
	r := rand.New(rand.NewSource(2))
	var some tally
	for range 40000 {
		var seen []api.Seen
		for range r.Intn(5) {
			seen = append(seen, drawSeen(r))
		}
		s, l := drawSpan(r), drawCells(r)
		some.holds(t, seen, s, l)
	}
	some.tellsMuch(t, 2000)
}

// tally counts what was drawn.
type tally struct {
	asked, got, need, both, kept, barred int
}

// holds asks the promises of one choice.
func (n *tally) holds(t *testing.T, seen []api.Seen, s api.Span, l []api.Cell) (got, need []api.Seen) {
	t.Helper()
	got, need = Choose(seen, s, l)
	wantGot, wantNeed := byWords(seen, s, l)
	if told(got) != told(wantGot) || told(need) != told(wantNeed) {
		t.Fatalf("seen %s, span %q, cells %+v:\ngot %s, want %s;\nneed %s, want %s", told(seen), s, l, told(got), told(wantGot), told(need), told(wantNeed))
	}
	got, need = Choose(seen, s, l)
	if told(got) != told(wantGot) || told(need) != told(wantNeed) {
		t.Fatalf("seen %s, span %q, cells %+v: another answer when it is asked again", told(seen), s, l)
	}
	for _, c := range l {
		for _, v := range append(slices.Clone(c.Versions), c.Intent) {
			want := barredByWords(seen, v)
			if Barred(seen, v) != want {
				t.Fatalf("Barred(%s, Ts %d, %q): %v, want %v", told(seen), v.Ts, v.Keys, !want, want)
			}
			n.barred += count(want)
		}
	}
	if keeps(seen, s, l) {
		together := slices.Concat(seen, got, need)
		if Fractured(together) || part(together) {
			t.Fatalf("seen %s, span %q, cells %+v: got %s and need %s are a part", told(seen), s, l, told(got), told(need))
		}
		n.kept++
	}
	n.asked++
	n.got += count(len(got) > 0)
	n.need += count(len(need) > 0)
	n.both += count(len(got) > 0 && len(need) > 0)
	return got, need
}

func count(is bool) int {
	if is {
		return 1
	}
	return 0
}

// tellsMuch holds the tally to having at least so many of each.
func (n *tally) tellsMuch(t *testing.T, least int) {
	t.Helper()
	for what, x := range map[string]int{"asked": n.asked, "got": n.got, "need": n.need, "both": n.both, "barred": n.barred, "kept": n.kept} {
		if x < least {
			t.Errorf("%s: %d, want at least %d: the draws tell little", what, x, least)
		}
	}
}

// keeps answers whether the conditions of P17.4 are kept.
func keeps(seen []api.Seen, s api.Span, cells []api.Cell) bool {
	if part(seen) {
		return false
	}
	versions := slices.DeleteFunc(slices.Clone(seen), func(x api.Seen) bool { return x.Ts == 0 && x.Txn == 0 && len(x.Keys) == 0 })
	for i, c := range cells {
		if slices.ContainsFunc(cells[:i], func(d api.Cell) bool { return bytes.Equal(c.Key, d.Key) }) {
			return false
		}
		if bytes.Compare(c.Key, s.Lo) < 0 || len(s.Hi) > 0 && bytes.Compare(c.Key, s.Hi) >= 0 {
			return false
		}
		for _, v := range c.Versions {
			versions = append(versions, api.Seen{Key: c.Key, Ts: v.Ts, Txn: v.Txn, Keys: v.Keys})
		}
	}
	for i, x := range versions {
		if !slices.ContainsFunc(x.Keys, func(k []byte) bool { return bytes.Equal(k, x.Key) }) {
			return false
		}
		for _, y := range versions[:i] {
			if x.Txn == y.Txn && (x.Ts != y.Ts || !slices.EqualFunc(x.Keys, y.Keys, bytes.Equal)) {
				return false
			}
		}
	}
	return true
}

// world is transactions that wrote keys, some of which stand there already.
type world struct {
	r     *rand.Rand
	wrote []api.Version
	stand map[string][]api.Version
}

// write lets one more transaction be decided: its Ts is above all others; which
// of its keys stand there already is drawn.
func (w *world) write() {
	n := uint64(len(w.wrote) + 1)
	v := api.Version{Ts: n * 2, Txn: 1000 - n, Dead: w.r.Intn(5) == 0}
	for _, i := range w.r.Perm(len(someKeys))[:1+w.r.Intn(4)] {
		v.Keys = append(v.Keys, []byte(someKeys[i]))
	}
	w.wrote = append(w.wrote, v)
	for _, k := range v.Keys {
		if w.r.Intn(2) == 0 {
			w.apply(string(k), v)
		}
	}
}

// apply lets a version stand at the key, among the others by its Ts.
func (w *world) apply(key string, v api.Version) {
	l := w.stand[key]
	i := slices.IndexFunc(l, func(x api.Version) bool { return x.Ts <= v.Ts })
	switch {
	case i < 0:
		w.stand[key] = append(l, v)
	case l[i].Ts < v.Ts:
		w.stand[key] = slices.Insert(slices.Clone(l), i, v)
	}
}

// later lets a version stand at some key that it was decided for.
func (w *world) later() {
	if len(w.wrote) == 0 {
		return
	}
	v := w.wrote[w.r.Intn(len(w.wrote))]
	w.apply(string(v.Keys[w.r.Intn(len(v.Keys))]), v)
}

// cells answers what stands within the span: keys without versions, too, if they
// are drawn.
func (w *world) cells(s api.Span) []api.Cell {
	var l []api.Cell
	for _, i := range w.r.Perm(len(someKeys)) {
		k := someKeys[i]
		inside := k >= string(s.Lo) && (len(s.Hi) == 0 || k < string(s.Hi))
		if inside && (len(w.stand[k]) > 0 || w.r.Intn(2) == 0) {
			l = append(l, cell(k, w.stand[k]...))
		}
	}
	return l
}

// P17.4: one who reads on and on, whatever is decided and comes to stand between,
// never sees a part; what is needed is a version that was written.
func TestReadingOn(t *testing.T) {
	var some tally
	for seed := range int64(600) {
		w := &world{r: rand.New(rand.NewSource(seed)), stand: map[string][]api.Version{}}
		for range 4 {
			var seen []api.Seen
			for range 12 {
				for range w.r.Intn(3) {
					w.write()
				}
				for range w.r.Intn(4) {
					w.later()
				}
				s := drawSpan(w.r)
				l := w.cells(s)
				if !keeps(seen, s, l) {
					t.Fatalf("seen %s, span %q, cells %+v: the conditions aren't kept", told(seen), s, l)
				}
				got, need := some.holds(t, seen, s, l)
				w.isWritten(t, got, need)
				seen = slices.Concat(seen, got, need)
			}
		}
	}
	some.tellsMuch(t, 3000)
}

// isWritten holds what is read to what was written there.
func (w *world) isWritten(t *testing.T, got, need []api.Seen) {
	t.Helper()
	for i, x := range slices.Concat(got, need) {
		if i < len(got) && told(list(x)) == told(list(none(string(x.Key)))) {
			continue
		}
		if !slices.ContainsFunc(w.wrote, func(v api.Version) bool {
			wrote := slices.ContainsFunc(v.Keys, func(k []byte) bool { return bytes.Equal(k, x.Key) })
			return wrote && told(list(x)) == told(list(api.Seen{Key: x.Key, Ts: v.Ts, Txn: v.Txn, Keys: v.Keys}))
		}) {
			t.Fatalf("%s: nobody wrote it", told(list(x)))
		}
	}
}
