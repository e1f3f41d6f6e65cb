package shard

import (
	"fmt"
	"math"
	"reflect"
	"strings"
	"testing"

	"plenum/api"
	"plenum/meta"
)

// roomy gives each list within a thing room behind its length, with something in
// it.
func roomy(v reflect.Value) {
	switch v.Kind() {
	case reflect.Struct:
		for i := range v.NumField() {
			roomy(v.Field(i))
		}
	case reflect.Slice:
		n := v.Len()
		room := reflect.MakeSlice(v.Type(), n+3, n+3)
		reflect.Copy(room, v)
		for i := range n + 3 {
			if i < n {
				roomy(room.Index(i))
			} else {
				mark(room.Index(i))
			}
		}
		v.Set(room.Slice3(0, n, n+3))
	}
}

// mark sets a thing's parts to something that stands nowhere else.
func mark(v reflect.Value) {
	switch v.Kind() {
	case reflect.Struct:
		for i := range v.NumField() {
			mark(v.Field(i))
		}
	case reflect.Slice:
		v.Set(reflect.MakeSlice(v.Type(), 2, 2))
		mark(v.Index(0))
		mark(v.Index(1))
	case reflect.String:
		v.SetString("spoilt")
	case reflect.Bool:
		v.SetBool(!v.Bool())
	case reflect.Uint8, reflect.Uint64:
		v.SetUint(v.Uint() ^ 85)
	default:
		v.SetInt(v.Int() ^ 85)
	}
}

// spoil changes what all lists within a thing hold, up to their capacity; the
// innermost ahead.
func spoil(v reflect.Value) {
	switch v.Kind() {
	case reflect.Struct:
		for i := range v.NumField() {
			spoil(v.Field(i))
		}
	case reflect.Slice:
		v = v.Slice(0, v.Cap())
		for i := range v.Len() {
			spoil(v.Index(i))
			mark(v.Index(i))
		}
	}
}

// spoilAll spoils several.
func spoilAll(l ...any) {
	for _, x := range l {
		spoil(reflect.ValueOf(x))
	}
}

// seen tells all that lists within a thing hold, up to their capacity.
func seen(v reflect.Value) string {
	switch v.Kind() {
	case reflect.Struct:
		var s []string
		for i := range v.NumField() {
			s = append(s, seen(v.Field(i)))
		}
		return "{" + strings.Join(s, " ") + "}"
	case reflect.Slice:
		s := []string{fmt.Sprint(v.Len())}
		v = v.Slice(0, v.Cap())
		for i := range v.Len() {
			s = append(s, seen(v.Index(i)))
		}
		return "[" + strings.Join(s, " ") + "]"
	}
	return fmt.Sprint(v.Interface())
}

// handed answers commands with all that they may tell, each list with room
// behind it.
func handed() []api.Command {
	l := several()
	for kind := range 15 {
		for _, txn := range []uint64{0, 1, 2, 5} {
			c := prepare(txn, write("i", "many bytes"), kill("k"), write("long", "many more bytes than the others have"))
			c.Kind, c.Ts, c.Lo, c.Hi, c.Flag = kind, 8, []byte("i"), []byte("zz"), txn == 5
			c.Txns, c.Table = []uint64{1, 2}, api.Table{Name: "t", Cols: []api.Col{{Name: "c"}}, Indexes: []int{1}}
			l = append(l, c)
		}
	}
	for i := range l {
		roomy(reflect.ValueOf(&l[i]).Elem())
	}
	return l
}

// P2: nothing that is handed in is changed, neither what lies behind a length.
func TestNothingHandedInIsChanged(t *testing.T) {
	for _, c := range handed() {
		m := ground()
		want := seen(reflect.ValueOf(c))
		m.Do(c)
		m.Do(from(1, 1, c))
		spoilAll(m.Do(from(1, 1, c)), m.Do(from(1, 0, c)), m.Do(from(1, 2, c)))
		for _, x := range []api.Command{everything(), apply(2, 7), apply(5, 8), everything(), gc(9), drop(1)} {
			spoilAll(m.Do(x))
		}
		(*Machine)(nil).Do(c)
		new(Machine).Do(c)
		if got := seen(reflect.ValueOf(c)); got != want {
			t.Errorf("%s was %s", got, want)
		}
	}
}

// P2: Pick and Parts change neither the bounds nor the keys, nor write behind
// them.
func TestBoundsAreNotChanged(t *testing.T) {
	type both struct {
		Bounds [][]byte
		S      api.Span
	}
	for _, x := range []both{{texts("b", "d"), span("a", "c")}, {nil, span("", "")}, {texts("d", "b", ""), span("b", "b\x00")}, {texts("b"), span("c", "a")}} {
		own := x
		roomy(reflect.ValueOf(&own).Elem())
		want := seen(reflect.ValueOf(own))
		Pick(own.Bounds, own.S.Lo)
		Pick(own.Bounds, own.S.Hi)
		l := Parts(own.Bounds, own.S)
		spoilAll(l)
		if got := seen(reflect.ValueOf(own)); got != want {
			t.Errorf("%s was %s", got, want)
		}
		if a, b := Parts(own.Bounds, own.S), Parts(x.Bounds, x.S); fmt.Sprint(a) != fmt.Sprint(b) {
			t.Errorf("%v, want %v: what lies behind a length is seen", a, b)
		}
	}
}

// P2: what is kept isn't changed by a change of what was handed in, nor by one of
// what was handed out; neither is what is answered again.
func TestWhatIsKeptIsItsOwn(t *testing.T) {
	for i, c := range handed() {
		want := ground()
		first := want.Do(from(7, 1, handed()[i]))
		m := ground()
		c.Client, c.Seq = 7, 1
		r := m.Do(c)
		spoilAll(c, r)
		for range 3 {
			again := m.Do(from(7, 1, everything()))
			if !meta.SameResult(again, first) {
				t.Fatalf("%+v: answered again as %+v, want %+v", handed()[i], again, first)
			}
			if got := all(m); got != all(want) {
				t.Fatalf("%+v: %s, want %s", handed()[i], got, all(want))
			}
			spoilAll(again, m.Do(everything()), m.Do(fetch("i", 2, 4)), m.Do(fetch("a", 1, 4)), m.Do(fetch("long", 5, 4)))
		}
		m.Do(apply(5, 9))
		want.Do(apply(5, 9))
		if got := all(m); got != all(want) {
			t.Fatalf("%+v, applied: %s, want %s", handed()[i], got, all(want))
		}
	}
}

// P2: the intents of one command are each kept by themselves, though they have
// the same Keys, and so are the cells of one answer.
func TestListsAreApart(t *testing.T) {
	m := New()
	c := prepare(1, write("a", "1"), write("b", "1"))
	val := []byte("one for both")
	c.Writes[0].Val, c.Writes[1].Val = val, val
	m.Do(c)
	m.Do(apply(1, 3))
	m.Do(c)
	want := fmt.Sprintf("%+v", m.Do(everything()).Cells[1])
	r := m.Do(everything())
	if len(r.Cells) != 2 {
		t.Fatal(r)
	}
	for range 2 {
		x := r.Cells[0]
		spoilAll(x.Intent)
		if got := fmt.Sprintf("%+v", r.Cells[0].Versions[0]); got != fmt.Sprintf("%+v", m.Do(everything()).Cells[0].Versions[0]) {
			t.Fatalf("a version shares memory with an intent: %s", got)
		}
		spoilAll(x)
		if got := fmt.Sprintf("%+v", r.Cells[1]); got != want {
			t.Fatalf("%s, want %s", got, want)
		}
		r = m.Do(from(1, 1, everything()))
	}
	if v, _ := m.Store().At([]byte("a"), math.MaxUint64); string(v.Val) != "one for both" {
		t.Errorf("%s", v.Val)
	}
}
