package ramp

import (
	"testing"

	"plenum/api"
)

// choosing is what Choose is asked, and what it must answer.
type choosing struct {
	what      string
	seen      []api.Seen
	s         api.Span
	cells     []api.Cell
	got, need []api.Seen
}

func (x choosing) isRight(t *testing.T) {
	t.Helper()
	got, need := Choose(x.seen, x.s, x.cells)
	if told(got) != told(x.got) {
		t.Errorf("%q: got %s, want %s", x.what, told(got), told(x.got))
	}
	if told(need) != told(x.need) {
		t.Errorf("%q: need %s, want %s", x.what, told(need), told(x.need))
	}
}

var all = api.Span{}

// P17.2: of each cell, in order, its first version that isn't Barred; none, if
// there is none.
func TestChooseFirst(t *testing.T) {
	three := []api.Version{of(7, "k", "a"), of(5, "k", "b"), of(3, "k", "c")}
	at := span("k", "l")
	for _, x := range []choosing{
		{"no cells", nil, all, nil, nil, nil},
		{"empty ones", list(), all, cells(), nil, nil},
		{"no cells, and seen that ask for nothing", list(saw("a", 5), none("b")), all, nil, nil, nil},
		{"a cell that says nothing", nil, all, cells(api.Cell{}), list(none("")), nil},
		{"cells without versions", nil, all, cells(cell("b"), cell("a")), list(none("b"), none("a")), nil},
		{"one with a version between two without", list(saw("x", 1)), all, cells(cell("a"), cell("b", of(5, "b")), cell("c")), list(none("a"), saw("b", 5, "b"), none("c")), nil},
		{"no Keys", nil, all, cells(cell("a", of(5), of(3))), list(saw("a", 5)), nil},
		{"the order of the cells", nil, all, cells(cell("c", of(1)), cell("a", of(3)), cell("", of(4)), cell("b", of(2))), list(saw("c", 1), saw("a", 3), saw("", 4), saw("b", 2)), nil},

		{"none is barred", nil, at, cells(cell("k", three...)), list(saw("k", 7, "k", "a")), nil},
		{"the first one is barred", list(saw("a", 6)), at, cells(cell("k", three...)), list(saw("k", 5, "k", "b")), nil},
		{"the first two are barred", list(saw("a", 6), saw("b", 4)), at, cells(cell("k", three...)), list(saw("k", 3, "k", "c")), nil},
		{"the last one is barred", list(saw("c", 2)), at, cells(cell("k", three...)), list(saw("k", 7, "k", "a")), nil},
		{"the middle one is barred", list(saw("b", 4)), at, cells(cell("k", three...)), list(saw("k", 7, "k", "a")), nil},
		{"the first one and the last one are barred", list(saw("a", 6), saw("c", 2)), at, cells(cell("k", three...)), list(saw("k", 5, "k", "b")), nil},
		{"all are barred", list(saw("a", 6), saw("b", 4), saw("c", 2)), at, cells(cell("k", three...)), list(none("k")), nil},
		{"all are barred by their own key", list(none("k")), at, cells(cell("k", three...)), list(none("k")), nil},
		{"by its own key the first one is", list(saw("k", 5)), at, cells(cell("k", three...)), list(saw("k", 5, "k", "b")), nil},
		{"read with just its Ts", list(saw("a", 7)), at, cells(cell("k", three...)), list(saw("k", 7, "k", "a")), nil},
		{"of several cells some are barred", list(saw("x", 4)), span("a", "d"), cells(cell("a", of(5, "x"), of(4)), cell("b", of(5, "x")), cell("c", of(4, "x"))), list(saw("a", 4), none("b"), saw("c", 4, "x")), nil},
		{"versions that don't fall", nil, all, cells(cell("a", of(3), of(7), of(5))), list(saw("a", 3)), nil},
		{"versions that don't fall, the first barred", list(saw("x", 2)), at, cells(cell("a", of(3, "x"), of(7, "x"), of(1, "x"), of(2, "x"))), list(saw("a", 1, "x")), nil},
		{"Ts 0 is never barred", list(none("a"), none("x")), span("y", "z"), cells(cell("a", of(1, "x"), of(0, "a", "x"))), list(saw("a", 0, "a", "x")), nil},
		{"the greatest Ts is barred", list(saw("x", greatest-1)), at, cells(cell("a", of(greatest, "x"), of(greatest-1, "x"))), list(saw("a", greatest-1, "x")), nil},
	} {
		x.isRight(t)
	}
}

// P17.2: what is about to be written isn't looked at; a version that says that
// the key is dead is one.
func TestChooseVersionsAlone(t *testing.T) {
	dead := api.Version{Ts: 5, Txn: 8, Dead: true, Keys: texts("a")}
	intent := api.Version{Ts: 9, Txn: 9, Keys: texts("a", "b"), Val: []byte("x")}
	l := cells(api.Cell{Key: []byte("a"), Versions: []api.Version{dead, of(3, "a")}, Intent: intent}, api.Cell{Key: []byte("b"), Intent: intent})
	choosing{"dead, and an intent", nil, all, l, list(by(8, saw("a", 5, "a")), none("b")), nil}.isRight(t)
}

// P17.2: the keys that what was chosen wrote, too, must be read with at least its
// Ts.
func TestChooseAsksOfTheChosen(t *testing.T) {
	for _, x := range []choosing{
		{"one with a lesser one", nil, all, cells(cell("a", of(5, "a", "b")), cell("b", of(4, "b"))), list(saw("a", 5, "a", "b")), list(saw("b", 5, "a", "b"))},
		{"one that stands ahead", nil, all, cells(cell("a", of(4, "a")), cell("b", of(5, "b", "a"))), list(saw("b", 5, "b", "a")), list(saw("a", 5, "b", "a"))},
		{"one with the same", nil, all, cells(cell("a", of(5, "a", "b")), cell("b", of(5, "b", "a"))), list(saw("a", 5, "a", "b"), saw("b", 5, "b", "a")), nil},
		{"one with a greater one", nil, all, cells(cell("a", of(5, "a", "b")), cell("b", of(6, "b"))), list(saw("a", 5, "a", "b"), saw("b", 6, "b")), nil},
		{"one without versions", nil, all, cells(cell("a", of(5, "a", "b")), cell("b")), list(saw("a", 5, "a", "b")), list(saw("b", 5, "a", "b"))},
		{"one that has the version, but a lesser ahead", nil, all, cells(cell("a", of(5, "a", "b")), cell("b", of(4, "b"), of(5, "a", "b"))), list(saw("a", 5, "a", "b")), list(saw("b", 5, "a", "b"))},
		{"keys that no cell has", nil, all, cells(cell("b", of(5, "c", "b", "a"))), list(saw("b", 5, "c", "b", "a")), list(saw("a", 5, "c", "b", "a"), saw("c", 5, "c", "b", "a"))},
		{"one key over and over", nil, all, cells(cell("b", of(5, "a", "b", "a", "a"))), list(saw("b", 5, "a", "b", "a", "a")), list(saw("a", 5, "a", "b", "a", "a"))},
		{"its own key", nil, all, cells(cell("a", of(5, "a", "a"))), list(saw("a", 5, "a", "a")), nil},
		{"its own key, of Ts 0", nil, all, cells(cell("a", of(0, "a"))), list(saw("a", 0, "a")), nil},
		{"not its own key", nil, all, cells(cell("a", of(5, "b"))), list(saw("a", 5, "b")), list(saw("b", 5, "b"))},
		{"what isn't chosen doesn't ask", nil, all, cells(cell("a", of(5, "a"), of(4, "a", "b"))), list(saw("a", 5, "a")), nil},
		{"what is barred doesn't ask", list(saw("x", 4)), all, cells(cell("a", of(5, "x", "b"), of(4, "a")), cell("b", of(4))), list(saw("a", 4, "a"), saw("b", 4)), nil},
		{"what is needed otherwise asks, too", nil, all, cells(cell("a", of(5, "a", "b")), cell("b", of(4, "b", "c")), cell("c", of(3, "c"))), list(saw("a", 5, "a", "b")), list(saw("b", 5, "a", "b"), saw("c", 4, "b", "c"))},
		{"two that need each other's key otherwise", nil, all, cells(cell("a", of(5, "a", "b")), cell("b", of(6, "a", "b"))), list(saw("b", 6, "a", "b")), list(saw("a", 6, "a", "b"))},
		{"the empty key", nil, all, cells(cell("a", of(5, ""))), list(saw("a", 5, "")), list(saw("", 5, ""))},
		{"a key with the empty one's cell", nil, all, cells(cell("", of(2)), cell("a", of(5, ""))), list(saw("a", 5, "")), list(saw("", 5, ""))},
		{"a key that begins so", nil, all, cells(cell("a", of(3)), cell("a\x00", of(5, "a\x00", "aa")), cell("b", of(2))), list(saw("a", 3), saw("a\x00", 5, "a\x00", "aa"), saw("b", 2)), list(saw("aa", 5, "a\x00", "aa"))},
		{"the greatest Ts", nil, all, cells(cell("a", of(greatest, "b", "c", "d")), cell("b", of(greatest-1)), cell("c", of(greatest))), list(saw("a", greatest, "b", "c", "d"), saw("c", greatest)), list(saw("b", greatest, "b", "c", "d"), saw("d", greatest, "b", "c", "d"))},
		{"Ts 0 asks for what no cell has, alone", nil, all, cells(cell("a", of(0, "b", "c")), cell("b")), list(saw("a", 0, "b", "c"), none("b")), list(saw("c", 0, "b", "c"))},
	} {
		x.isRight(t)
	}
}

// P17.2: and so must those that what was seen ahead wrote.
func TestChooseAsksOfTheSeen(t *testing.T) {
	for _, x := range []choosing{
		{"one with a lesser one", list(saw("a", 5, "a", "b")), span("b", "c"), cells(cell("b", of(4, "b"))), nil, list(saw("b", 5, "a", "b"))},
		{"one with the same", list(saw("a", 5, "a", "b")), span("b", "c"), cells(cell("b", of(5, "a", "b"))), list(saw("b", 5, "a", "b")), nil},
		{"one with a greater one", list(saw("a", 5, "a", "b")), span("b", "c"), cells(cell("b", of(6, "b"))), list(saw("b", 6, "b")), nil},
		{"one without versions", list(saw("a", 5, "a", "b")), span("b", "c"), cells(cell("b")), nil, list(saw("b", 5, "a", "b"))},
		{"no cells", list(saw("a", 5, "a", "c", "b")), span("b", ""), nil, nil, list(saw("b", 5, "a", "c", "b"), saw("c", 5, "a", "c", "b"))},
		{"a key that was seen ahead, too", list(saw("a", 5, "a", "b"), saw("b", 5, "a", "b")), all, nil, nil, list(saw("a", 5, "a", "b"), saw("b", 5, "a", "b"))},
		{"a key that was seen behind, and no cell has", list(saw("a", 5, "b"), saw("b", 7)), all, nil, nil, list(saw("b", 5, "b"))},
		{"nothing was seen", list(none("a"), none("b")), all, cells(cell("a", of(3)), cell("c", of(4))), list(saw("a", 3), saw("c", 4)), nil},
		{"what the seen asks is chosen behind a barred one", list(saw("a", 5, "a", "b"), saw("c", 4)), span("b", "c"), cells(cell("b", of(7, "b", "c"), of(5, "a", "b"))), list(saw("b", 5, "a", "b")), nil},
		{"a barred one is needed in the state that was asked", list(saw("a", 5, "a", "b"), saw("c", 4)), span("b", "c"), cells(cell("b", of(7, "b", "c"), of(4, "b"))), nil, list(saw("b", 5, "a", "b"))},
		{"Ts 0 asks for what no cell has, alone", list(by(3, saw("a", 0, "b", "c"))), all, cells(cell("b")), list(none("b")), list(by(3, saw("c", 0, "b", "c")))},
		{"the greatest Ts", list(saw("a", greatest, "b", "c")), span("b", ""), cells(cell("b", of(greatest-1)), cell("c", of(greatest, "c"))), list(saw("c", greatest, "c")), list(saw("b", greatest, "b", "c"))},
		{"Txn 0", list(by(0, saw("a", 5, "b"))), all, cells(cell("b", of(4))), nil, list(by(0, saw("b", 5, "b")))},
	} {
		x.isRight(t)
	}
}

// P17.2: of several that ask for one key the greatest Ts counts; of those that ask
// for it alike, the first one.
func TestChooseTheGreatestAsk(t *testing.T) {
	chosen := func(ts ...uint64) []api.Cell {
		l := cells(cell("k", of(1, "k")))
		for i, x := range ts {
			v := of(x, "k", string(rune('a'+i)))
			v.Txn = uint64(100 + i)
			l = append(l, cell(string(rune('a'+i)), v))
		}
		return l
	}
	seen := func(ts ...uint64) []api.Seen {
		var l []api.Seen
		for i, x := range ts {
			l = append(l, by(uint64(200+i), saw("x", x, "k", string(rune('m'+i)))))
		}
		return l
	}
	for _, x := range []struct {
		what string
		seen []api.Seen
		l    []api.Cell
		want api.Seen
	}{
		{"rising", nil, chosen(3, 4, 5), by(102, saw("k", 5, "k", "c"))},
		{"falling", nil, chosen(5, 4, 3), by(100, saw("k", 5, "k", "a"))},
		{"up and down", nil, chosen(4, 5, 3), by(101, saw("k", 5, "k", "b"))},
		{"alike", nil, chosen(5, 5, 5), by(100, saw("k", 5, "k", "a"))},
		{"alike behind a lesser", nil, chosen(4, 5, 5), by(101, saw("k", 5, "k", "b"))},
		{"seen, rising", seen(3, 4, 5), chosen(), by(202, saw("k", 5, "k", "o"))},
		{"seen, falling", seen(5, 4, 3), chosen(), by(200, saw("k", 5, "k", "m"))},
		{"seen, alike", seen(4, 5, 5), chosen(), by(201, saw("k", 5, "k", "n"))},
		{"seen, with a greater Ts than the chosen", seen(6), chosen(4, 5), by(200, saw("k", 6, "k", "m"))},
		{"seen, with a lesser Ts", seen(4), chosen(3, 5), by(101, saw("k", 5, "k", "b"))},
		{"the chosen ahead of the seen", seen(5, 5), chosen(4, 5), by(101, saw("k", 5, "k", "b"))},
		{"the greatest of all", seen(greatest, greatest-1), chosen(greatest-1, 5), by(200, saw("k", greatest, "k", "m"))},
	} {
		within := span("k", "l")
		choosing{x.what, x.seen, within, x.l, taken(x.l[1:]), list(x.want)}.isRight(t)
		choosing{x.what + ", no cell has it", x.seen, within, x.l[1:], taken(x.l[1:]), list(x.want)}.isRight(t)
	}
}

// taken answers each cell's first version.
func taken(l []api.Cell) []api.Seen {
	var out []api.Seen
	for _, c := range l {
		v := c.Versions[0]
		out = append(out, api.Seen{Key: c.Key, Ts: v.Ts, Txn: v.Txn, Keys: v.Keys})
	}
	return out
}

// P17.2: of those that ask for Ts 0, too, the first one is heard.
func TestChooseTheFirstAskForNothing(t *testing.T) {
	ahead := list(by(1, saw("x", 0, "k", "m")), by(2, saw("x", 0, "k")))
	choosing{"Ts 0", ahead, span("k", "l"), nil, nil, list(by(1, saw("k", 0, "k", "m")))}.isRight(t)
	choosing{"Ts 0, and 1", append(ahead, saw("x", 1, "k", "n")), span("k", "l"), nil, nil, list(saw("k", 1, "k", "n"))}.isRight(t)
}

// P17.2: the keys within the span alone are asked for, up to its bounds; nothing
// as Hi bounds nothing.
func TestChooseWithin(t *testing.T) {
	wrote := []string{"", "a", "b", "b\x00", "c", "c\x00", "d", "\xff\xff"}
	for _, x := range []struct {
		s    api.Span
		want []string
	}{
		{all, wrote}, {span("", ""), wrote}, {span("b", ""), wrote[2:]}, {span("b\x00", ""), wrote[3:]}, {span("\xff\xff", ""), wrote[7:]}, {span("\xff\xff\x00", ""), nil},
		{span("", "b"), wrote[:2]}, {span("", "\x00"), wrote[:1]}, {span("b", "c"), wrote[2:4]}, {span("b", "c\x00"), wrote[2:5]}, {span("b", "b\x00"), wrote[2:3]}, {span("b\x01", "c"), nil},
		{span("b", "b"), nil}, {span("c", "b"), nil}, {span("d", "a"), nil}, {api.Span{Hi: []byte{0}}, wrote[:1]}, {api.Span{Lo: []byte("d"), Hi: []byte{}}, wrote[6:]},
	} {
		var need []api.Seen
		for _, k := range x.want {
			need = append(need, saw(k, 5, wrote...))
		}
		what := string(x.s.Lo) + " to " + string(x.s.Hi)
		choosing{"seen, " + what, list(saw("k", 5, wrote...)), x.s, nil, nil, need}.isRight(t)
		choosing{"chosen, " + what, nil, x.s, cells(cell("k", of(5, wrote...))), list(saw("k", 5, wrote...)), need}.isRight(t)

		var l []api.Cell
		var got []api.Seen
		for _, k := range wrote {
			l = append(l, cell(k, of(4, k)))
			got = append(got, saw(k, 4, k))
			for _, needed := range x.want {
				if needed == k {
					got = got[:len(got)-1]
				}
			}
		}
		choosing{"cells, " + what, list(saw("k", 5, wrote...)), x.s, l, got, need}.isRight(t)
	}
}

// P17.2: what is needed stands by Key, rising, byte by byte, whoever asks.
func TestNeedRises(t *testing.T) {
	ahead := list(saw("x", 5, "m", "\xff", "b\x00"), saw("y", 6, "", "b", "ba"))
	l := cells(cell("z", of(7, "c", "a", "\x80", "\x7f")))
	var keys []string
	_, need := Choose(ahead, all, l)
	for _, x := range need {
		keys = append(keys, string(x.Key))
	}
	want := []string{"", "a", "b", "b\x00", "ba", "c", "m", "\x7f", "\x80", "\xff"}
	if told(need[:1]) != told(list(saw("", 6, "", "b", "ba"))) || len(keys) != len(want) {
		t.Fatal(told(need))
	}
	for i := range want {
		if keys[i] != want[i] {
			t.Fatalf("%q, want %q", keys, want)
		}
	}
}

// P17.2: of a key that two cells have, a lesser one that was chosen is needed
// otherwise; nothing of it is got then.
func TestChooseOneKeyTwice(t *testing.T) {
	a := of(9, "a", "k")
	for _, x := range []choosing{
		{"alike", nil, all, cells(cell("k", of(5, "k")), cell("k", of(5, "k"))), list(saw("k", 5, "k"), saw("k", 5, "k")), nil},
		{"unlike, and nobody asks", nil, all, cells(cell("k", of(5)), cell("k", of(3))), list(saw("k", 5), saw("k", 3)), nil},
		{"both are lesser", nil, all, cells(cell("k", of(5)), cell("a", a), cell("k", of(3))), list(saw("a", 9, "a", "k")), list(saw("k", 9, "a", "k"))},
		{"the first one is lesser", nil, all, cells(cell("k", of(3)), cell("a", a), cell("k", of(9))), list(saw("a", 9, "a", "k")), list(saw("k", 9, "a", "k"))},
		{"the second one is lesser", nil, all, cells(cell("k", of(10)), cell("a", a), cell("k", of(3))), list(saw("a", 9, "a", "k")), list(saw("k", 9, "a", "k"))},
		{"none is lesser", nil, all, cells(cell("k", of(9)), cell("a", a), cell("k", of(10))), list(saw("k", 9), saw("a", 9, "a", "k"), saw("k", 10)), nil},
		{"the one asks for the other one", nil, all, cells(cell("k", of(5, "k")), cell("k", of(3, "k"))), nil, list(saw("k", 5, "k"))},
	} {
		x.isRight(t)
	}
}
