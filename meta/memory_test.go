package meta

import (
	"bytes"
	"fmt"
	"reflect"
	"slices"
	"strings"
	"testing"

	"plenum/api"
)

// roomy gives each list within a thing room behind its length, with something in
// it.
func roomy(v reflect.Value) {
	switch v.Kind() {
	case reflect.Struct:
		for i := range v.NumField() {
			roomy(v.Field(i))
		}
	case reflect.Slice:
		n := v.Len()
		room := reflect.MakeSlice(v.Type(), n+3, n+3)
		reflect.Copy(room, v)
		for i := range n + 3 {
			if i < n {
				roomy(room.Index(i))
			} else {
				mark(room.Index(i))
			}
		}
		v.Set(room.Slice3(0, n, n+3))
	}
}

// mark sets a thing's parts to something that stands nowhere else.
func mark(v reflect.Value) {
	switch v.Kind() {
	case reflect.Struct:
		for i := range v.NumField() {
			mark(v.Field(i))
		}
	case reflect.Slice:
		v.Set(reflect.MakeSlice(v.Type(), 2, 2))
		mark(v.Index(0))
		mark(v.Index(1))
	case reflect.String:
		v.SetString("spoilt")
	case reflect.Bool:
		v.SetBool(!v.Bool())
	case reflect.Uint8, reflect.Uint64:
		v.SetUint(v.Uint() ^ 85)
	default:
		v.SetInt(v.Int() ^ 85)
	}
}

// spoil changes what all lists within a thing hold, up to their capacity; the
// innermost ahead.
func spoil(v reflect.Value) {
	switch v.Kind() {
	case reflect.Struct:
		for i := range v.NumField() {
			spoil(v.Field(i))
		}
	case reflect.Slice:
		v = v.Slice(0, v.Cap())
		for i := range v.Len() {
			spoil(v.Index(i))
			mark(v.Index(i))
		}
	}
}

// spoilAll spoils several.
func spoilAll(l ...any) {
	for _, x := range l {
		spoil(reflect.ValueOf(x))
	}
}

// seen tells all that lists within a thing hold, up to their capacity.
func seen(v reflect.Value) string {
	switch v.Kind() {
	case reflect.Struct:
		var s []string
		for i := range v.NumField() {
			s = append(s, seen(v.Field(i)))
		}
		return "{" + strings.Join(s, " ") + "}"
	case reflect.Slice:
		s := []string{fmt.Sprint(v.Len())}
		v = v.Slice(0, v.Cap())
		for i := range v.Len() {
			s = append(s, seen(v.Index(i)))
		}
		return "[" + strings.Join(s, " ") + "]"
	}
	return fmt.Sprint(v.Interface())
}

// handed answers commands with all that they may tell, each list with room
// behind it.
func handed() []api.Command {
	l := several()
	for kind := range 15 {
		c := full()
		c.Kind, c.Txn, c.Lock.Lo, c.Lock.Hi = kind, 3, []byte("m"), []byte("n")
		l = append(l, c)
		c.Table = tableOf(kind + 20)
		l = append(l, c)
	}
	for i := range l {
		roomy(reflect.ValueOf(&l[i]).Elem())
		if i%2 == 0 {
			l[i].Client, l[i].Seq = 1, uint64(i)
		} else {
			l[i].Client = 0
		}
	}
	return l
}

// P2: nothing that is handed in is changed, neither what lies behind a length.
func TestNothingHandedInIsChanged(t *testing.T) {
	m := ground()
	for _, c := range handed() {
		want := seen(reflect.ValueOf(c))
		r := m.Do(c)
		m.Do(c)
		m.Do(from(1, 0, c))
		SameResult(r, r)
		b := PutCommand(c)
		OfCommand(b)
		(*Machine)(nil).Do(c)
		new(Machine).Do(c)
		if got := seen(reflect.ValueOf(c)); got != want {
			t.Errorf("%s was %s", got, want)
		}
	}
	b := append(PutCommand(full()), "room"...)
	want := bytes.Clone(b)
	OfCommand(b[:len(b)-4])
	OfCommand(b[:len(b)-9])
	if OfCommand(b); !bytes.Equal(b, want) {
		t.Error("OfCommand changed its bytes")
	}
	x, y := fullResult(), fullResult()
	roomy(reflect.ValueOf(&x).Elem())
	roomy(reflect.ValueOf(&y).Elem())
	shown := seen(reflect.ValueOf(x))
	if !SameResult(x, y) || seen(reflect.ValueOf(x)) != shown || seen(reflect.ValueOf(y)) != shown {
		t.Error("SameResult changed its results, or sees what lies behind a length")
	}
}

// P2: what is kept isn't changed by a change of what was handed in, nor by one of
// what was handed out; neither is what is answered again.
func TestWhatIsKeptIsItsOwn(t *testing.T) {
	for i, c := range handed() {
		c.Client, c.Seq = 7, 1
		want := ground()
		first := want.Do(from(7, 1, handed()[i]))
		m := ground()
		r := m.Do(c)
		spoilAll(c, r)
		for range 3 {
			again := m.Do(from(7, 1, begin()))
			if !alike(again, first) {
				t.Fatalf("%+v: answered again as %+v, want %+v", handed()[i], again, first)
			}
			if got := all(m); got != all(want) {
				t.Fatalf("%+v: %s, want %s", handed()[i], got, all(want))
			}
			spoilAll(again, m.Do(status(1, 2, 3)), m.Do(catalog()), m.Locks().Held())
		}
	}
}

// P2: a table is kept as it was, whatever becomes of the one that was handed in
// and of each that was handed out.
func TestTablesAreTheirOwn(t *testing.T) {
	m := New()
	c := from(1, 1, create(1))
	first := m.Do(c)
	c.Table.Cols[0].Name, c.Table.Cols[1].NotNull, c.Table.Indexes[0] = "x", true, 1
	does(t, m, catalog(), told(1))
	first.Tables[0].Cols[0].Name, first.Tables[0].Indexes[1] = "y", 2
	does(t, m, catalog(), told(1))
	does(t, m, c, told(1))
	one, two := m.Do(catalog()), m.Do(catalog())
	one.Tables[0].Cols[2].Kind, one.Tables[0].Name = 9, "z"
	if !alike(two, told(1)) {
		t.Errorf("two answers share memory: %+v", two)
	}
	one, two = m.Do(c), m.Do(c)
	one.Tables[0].Cols[1].Name, one.Tables[0] = "z", api.Table{}
	if !alike(two, told(1)) {
		t.Errorf("two answers share memory: %+v", two)
	}
	does(t, m, catalog(), told(1))
	if x := tableOf(1); x.Cols[1].NotNull || alike(c.Table, x) {
		t.Error("the test changes nothing")
	}
}

// P2: no two lists of one answer share memory: more behind one of them is seen
// in none.
func TestListsOfOneAnswerAreApart(t *testing.T) {
	m := New()
	for i := range 5 {
		m.Do(create(i))
	}
	r := m.Do(catalog())
	for i := range r.Tables {
		x := r.Tables[i]
		_ = append(x.Cols, api.Col{Name: "spoilt"})
		_ = append(x.Indexes, 77)
	}
	_ = append(r.Tables[:4:5], api.Table{})[4]
	spoilAll(r.Tables[1])
	if want := told(0, 1, 2, 3); !alike(r.Tables[0], want.Tables[0]) || !alike(r.Tables[2:4], want.Tables[2:4]) {
		t.Errorf("%+v", r.Tables)
	}
	b := PutCommand(full())
	c, _ := OfCommand(b)
	for _, l := range append(slices.Clone(c.Keys), c.Lo, c.Hi, c.Lock.Lo, c.Lock.Hi, c.Writes[0].Key, c.Writes[0].Val) {
		_ = append(l, "spoilt and more than fits"[:cap(l)-len(l)]...)
	}
	if !alike(c, full()) {
		t.Errorf("%+v", c)
	}
}

// P2: bytes are apart from the command that they are of, and a command from the
// bytes that it was read from.
func TestBytesAreTheirOwn(t *testing.T) {
	c := full()
	b := PutCommand(c)
	want := bytes.Clone(b)
	spoilAll(c)
	if !bytes.Equal(b, want) {
		t.Error("the bytes share memory with the command")
	}
	c = full()
	b = PutCommand(c)
	spoilAll(b)
	if !alike(c, full()) {
		t.Error("the command shares memory with its bytes")
	}
	b = bytes.Clone(want)
	c, _ = OfCommand(b)
	spoilAll(b)
	if !alike(c, full()) {
		t.Error("the command shares memory with the bytes that it was read from")
	}
	d, _ := OfCommand(want)
	spoilAll(c)
	if !alike(d, full()) || !bytes.Equal(want, PutCommand(d)) {
		t.Error("two commands share memory")
	}
}
