package ramp

import (
	"fmt"
	"reflect"
	"slices"
	"strings"
	"testing"

	"plenum/api"
)

// roomy gives each list within a thing room behind its length, with something in
// it.
func roomy(v reflect.Value) {
	switch v.Kind() {
	case reflect.Struct:
		for i := range v.NumField() {
			roomy(v.Field(i))
		}
	case reflect.Slice:
		n := v.Len()
		room := reflect.MakeSlice(v.Type(), n+3, n+3)
		reflect.Copy(room, v)
		for i := range n + 3 {
			if i < n {
				roomy(room.Index(i))
			} else {
				mark(room.Index(i))
			}
		}
		v.Set(room.Slice3(0, n, n+3))
	}
}

// mark sets a thing's parts to something that stands nowhere else.
func mark(v reflect.Value) {
	switch v.Kind() {
	case reflect.Struct:
		for i := range v.NumField() {
			mark(v.Field(i))
		}
	case reflect.Slice:
		v.Set(reflect.MakeSlice(v.Type(), 2, 2))
		mark(v.Index(0))
		mark(v.Index(1))
	case reflect.Bool:
		v.SetBool(!v.Bool())
	default:
		v.SetUint(v.Uint() ^ 85)
	}
}

// spoil changes what all lists within a thing hold, up to their capacity; the
// innermost ahead.
func spoil(v reflect.Value) {
	switch v.Kind() {
	case reflect.Struct:
		for i := range v.NumField() {
			spoil(v.Field(i))
		}
	case reflect.Slice:
		v = v.Slice(0, v.Cap())
		for i := range v.Len() {
			spoil(v.Index(i))
			mark(v.Index(i))
		}
	}
}

// spoilAll spoils several.
func spoilAll(l ...any) {
	for _, x := range l {
		spoil(reflect.ValueOf(x))
	}
}

// shown tells all that lists within a thing hold, up to their capacity.
func shown(v reflect.Value) string {
	switch v.Kind() {
	case reflect.Struct:
		var s []string
		for i := range v.NumField() {
			s = append(s, shown(v.Field(i)))
		}
		return "{" + strings.Join(s, " ") + "}"
	case reflect.Slice:
		s := []string{fmt.Sprint(v.Len())}
		v = v.Slice(0, v.Cap())
		for i := range v.Len() {
			s = append(s, shown(v.Index(i)))
		}
		return "[" + strings.Join(s, " ") + "]"
	}
	return fmt.Sprint(v.Interface())
}

// handed is what the calls are given.
type handed struct {
	Seen  []api.Seen
	S     api.Span
	Cells []api.Cell
}

// handings answers some: seen that ask and bar, cells that are got and needed
// otherwise, keys that no cell has.
func handings() []handed {
	return []handed{
		{},
		{Seen: list(saw("x", 4, "x"), saw("y", 6, "y", "b", "longer than others"), none("")), S: span("", "m"),
			Cells: cells(cell("a", of(9, "a", "x"), of(5, "a", "b", "c")), cell("b", of(3, "b")), cell("", of(2)), cell("d"))},
		{Seen: list(saw("x", 4, "x")), S: span("a", ""), Cells: cells(cell("c", of(9, "a", "b", "c", "c"), of(5, "c")), cell("a", of(9, "x"), of(3, "x")))},
		{Cells: cells(cell("a", of(5, "a", "", "k"), of(4)), cell("a", of(5, "a", "b")))},
	}
}

// P2: nothing that is handed in is changed, neither what lies behind a length; nor
// is that read.
func TestNothingHandedInIsChanged(t *testing.T) {
	for i, x := range handings() {
		roomy(reflect.ValueOf(&x).Elem())
		want := shown(reflect.ValueOf(x))
		got, need := Choose(x.Seen, x.S, x.Cells)
		plain := handings()[i]
		wantGot, wantNeed := Choose(plain.Seen, plain.S, plain.Cells)
		if told(got) != told(wantGot) || told(need) != told(wantNeed) || Fractured(x.Seen) != Fractured(plain.Seen) {
			t.Errorf("got %s, want %s; need %s, want %s: what lies behind a length is seen", told(got), told(wantGot), told(need), told(wantNeed))
		}
		for i, c := range x.Cells {
			for j, v := range c.Versions {
				if Barred(x.Seen, v) != Barred(plain.Seen, plain.Cells[i].Versions[j]) {
					t.Errorf("%+v: what lies behind a length is seen", v)
				}
			}
		}
		spoilAll(got, need)
		if now := shown(reflect.ValueOf(x)); now != want {
			t.Errorf("%s was %s", now, want)
		}
	}
}

// P2: what was handed out isn't changed by a change of what was handed in.
func TestAnswersApartFromWhatWasHandedIn(t *testing.T) {
	for i, x := range handings() {
		roomy(reflect.ValueOf(&x).Elem())
		got, need := Choose(x.Seen, x.S, x.Cells)
		spoilAll(x)
		plain := handings()[i]
		wantGot, wantNeed := byWords(plain.Seen, plain.S, plain.Cells)
		if told(got) != told(wantGot) || told(need) != told(wantNeed) {
			t.Errorf("got %s, want %s; need %s, want %s", told(got), told(wantGot), told(need), told(wantNeed))
		}
	}
}

// P2: no two lists of one answer share memory, though several are needed as one
// asks it, nor do those of two answers.
func TestAnswersAreApart(t *testing.T) {
	for _, x := range handings() {
		got, need := Choose(x.Seen, x.S, x.Cells)
		other, more := Choose(x.Seen, x.S, x.Cells)
		l := slices.Concat(got, need, other, more)
		for i := range l {
			spoilAll(l[i].Key, l[i].Keys)
			l[i] = none("gone")
			for j := i + 1; j < len(l); j++ {
				if now, want := told(l[j:j+1]), told(handedOut(x)[j:j+1]); now != want {
					t.Fatalf("%s, want %s: it shares memory with another one", now, want)
				}
			}
		}
	}
}

// handedOut answers what two Chooses answer, one behind the other.
func handedOut(x handed) []api.Seen {
	got, need := byWords(x.Seen, x.S, x.Cells)
	return slices.Concat(got, need, got, need)
}

// P1: whatever is missing, the calls answer.
func TestNothingAtAll(t *testing.T) {
	for _, seen := range [][]api.Seen{nil, {}, {{}}, {{Keys: [][]byte{nil}}}, {{Ts: greatest, Keys: [][]byte{nil, {}}}}} {
		for _, l := range [][]api.Cell{nil, {}, {{}}, {{Versions: []api.Version{{}}}}, {{Versions: []api.Version{{Ts: greatest, Keys: [][]byte{nil}}}}, {}}} {
			for _, s := range []api.Span{{}, {Lo: []byte{}, Hi: []byte{}}, {Hi: []byte{0}}, {Lo: []byte{0}}} {
				got, need := Choose(seen, s, l)
				wantGot, wantNeed := byWords(seen, s, l)
				if told(got) != told(wantGot) || told(need) != told(wantNeed) {
					t.Errorf("seen %s, span %q, cells %+v: got %s, want %s; need %s, want %s", told(seen), s, l, told(got), told(wantGot), told(need), told(wantNeed))
				}
			}
		}
	}
}
