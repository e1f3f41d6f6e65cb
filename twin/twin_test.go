package twin

import (
	"fmt"
	"reflect"
	"testing"

	"plenum/api"
)

// version answers a version in which every field says something, in new memory,
// with room behind its lists.
func version(ts uint64) api.Version {
	return api.Version{Ts: ts, Txn: 7, Dead: true, Val: append(make([]byte, 0, 9), "value"...), Keys: texts()}
}

func texts() [][]byte {
	return append(make([][]byte, 0, 5), append(make([]byte, 0, 9), "one"...), []byte("two"), nil, []byte("three"))
}

func cell(key string) api.Cell {
	return api.Cell{Key: []byte(key), Versions: []api.Version{version(5), {}, version(3)}, Intent: version(0)}
}

func seen() api.Seen {
	return api.Seen{Key: append(make([]byte, 0, 9), "key"...), Ts: 5, Txn: 7, Keys: texts()}
}

func table(name string) api.Table {
	return api.Table{Id: 4, Name: name, Cols: []api.Col{{Name: "k", Kind: api.Int, NotNull: true}, {Name: "a", Kind: api.Text}}, Key: 1, Indexes: []int{1, 0}}
}

func result() api.Result {
	return api.Result{Err: api.ErrBusy, Txn: 3, Ts: 4, Flag: true, States: []api.Status{{Txn: 1, State: api.Committed, Ts: 2}, {Txn: 5}},
		Cells: []api.Cell{cell("a"), {}, cell("b")}, Tables: []api.Table{table("t"), {}, table("u")}}
}

// spoil changes what all lists within a thing hold, up to their capacity; the
// innermost ahead.
func spoil(v reflect.Value) {
	switch v.Kind() {
	case reflect.Struct:
		for i := range v.NumField() {
			spoil(v.Field(i))
		}
	case reflect.Slice:
		v = v.Slice(0, v.Cap())
		for i := range v.Len() {
			spoil(v.Index(i))
			if v.Index(i).Kind() == reflect.Uint8 {
				v.Index(i).SetUint('!')
			} else {
				v.Index(i).SetZero()
			}
		}
	}
}

// lists answers where the memory of each list within a thing begins and ends.
func lists(v reflect.Value) [][2]uintptr {
	var l [][2]uintptr
	switch v.Kind() {
	case reflect.Struct:
		for i := range v.NumField() {
			l = append(l, lists(v.Field(i))...)
		}
	case reflect.Slice:
		if v.Cap() > 0 {
			l = append(l, [2]uintptr{v.Pointer(), v.Pointer() + uintptr(v.Cap())*v.Type().Elem().Size()})
		}
		for i := range v.Len() {
			l = append(l, lists(v.Index(i))...)
		}
	}
	return l
}

// isTwin holds the twin to saying what it is made of says, and to having memory
// of its own.
func isTwin[T any](t *testing.T, of func() T, twin func(T) T) {
	t.Helper()
	want := fmt.Sprintf("%+v", of())
	a := of()
	b := twin(a)
	if got := fmt.Sprintf("%+v", b); got != want {
		t.Errorf("%s, want %s", got, want)
	}
	all := append(lists(reflect.ValueOf(a)), lists(reflect.ValueOf(b))...)
	for i, x := range all {
		for _, y := range all[:i] {
			if x[0] < y[1] && y[0] < x[1] {
				t.Errorf("two lists of %s share memory", want)
			}
		}
	}
	spoil(reflect.ValueOf(b))
	if got := fmt.Sprintf("%+v", a); got != want {
		t.Errorf("%s, want %s: it was changed with its twin", got, want)
	}
	b = twin(a)
	spoil(reflect.ValueOf(a))
	if got := fmt.Sprintf("%+v", b); got != want {
		t.Errorf("%s, want %s: the twin was changed with it", got, want)
	}
}

// none answers a thing that says nothing.
func none[T any]() T {
	var x T
	return x
}

// P2: a twin says the same, and shares no memory; so it is of things that say
// nothing.
func TestTwins(t *testing.T) {
	isTwin(t, texts, Texts)
	isTwin(t, func() api.Version { return version(5) }, Version)
	isTwin(t, func() []api.Version { return []api.Version{version(5), {}, version(3)} }, Versions)
	isTwin(t, func() api.Cell { return cell("a") }, Cell)
	isTwin(t, seen, Seen)
	isTwin(t, func() api.Table { return table("t") }, Table)
	isTwin(t, func() []api.Table { return []api.Table{table("t"), {}, table("u")} }, Tables)
	isTwin(t, result, Result)
	isTwin(t, none, Texts)
	isTwin(t, none, Version)
	isTwin(t, none, Versions)
	isTwin(t, none, Cell)
	isTwin(t, none, Seen)
	isTwin(t, none, Table)
	isTwin(t, none, Tables)
	isTwin(t, none, Result)
}
