package meta

import (
	"fmt"
	"math/rand"
	"reflect"
	"testing"

	"plenum/api"
)

// fullResult answers a result with every field set, each to something else.
func fullResult() api.Result {
	version := func(n uint64) api.Version {
		return api.Version{Ts: n, Txn: n + 1, Dead: n%2 == 0, Val: []byte{byte(n), 99}, Keys: [][]byte{[]byte("k"), {byte(n)}}}
	}
	return api.Result{
		Err: api.ErrStale, Txn: 4, Ts: 5, Flag: true,
		States: []api.Status{{Txn: 1, State: api.Committed, Ts: 3}, {Txn: 2, State: api.Aborted}},
		Cells: []api.Cell{
			{Key: []byte("a"), Versions: []api.Version{version(9), version(4)}, Intent: version(20)},
			{Key: []byte("bc"), Versions: []api.Version{version(7)}},
			{Key: []byte("d"), Intent: version(11)},
		},
		Tables: []api.Table{kept(1, 1), kept(2, 2)},
	}
}

// areSame holds SameResult of both, either way, to what it must answer.
func areSame(t *testing.T, what string, a, b api.Result, want bool) {
	t.Helper()
	if SameResult(a, b) != want || SameResult(b, a) != want {
		t.Errorf("%s: want %v: %+v and %+v", what, want, a, b)
	}
}

// P15.2: results whose parts are all alike, wherever they stand.
func TestSameResult(t *testing.T) {
	areSame(t, "nothing", api.Result{}, api.Result{}, true)
	areSame(t, "every field", fullResult(), fullResult(), true)
	areSame(t, "every field and nothing", fullResult(), api.Result{}, false)
	one := fullResult()
	areSame(t, "itself", one, one, true)
	r := rand.New(rand.NewSource(3))
	for range 300 {
		var a api.Result
		fill(r, reflect.ValueOf(&a).Elem())
		seed := r.Int63()
		b, c := api.Result{}, api.Result{}
		fill(rand.New(rand.NewSource(seed)), reflect.ValueOf(&b).Elem())
		fill(rand.New(rand.NewSource(seed)), reflect.ValueOf(&c).Elem())
		areSame(t, "drawn alike", b, c, true)
		areSame(t, "drawn", a, b, alike(a, b))
	}
}

// P15.2, P3: nothing and an empty list are alike.
func TestSameResultOfEmptyLists(t *testing.T) {
	empty := api.Result{States: []api.Status{}, Cells: []api.Cell{}, Tables: []api.Table{}}
	areSame(t, "lists", api.Result{}, empty, true)
	a := api.Result{Cells: []api.Cell{{Versions: []api.Version{{}}}}, Tables: []api.Table{{}}}
	b := api.Result{Cells: []api.Cell{{Key: []byte{}, Versions: []api.Version{{Val: []byte{}, Keys: [][]byte{}}}}}, Tables: []api.Table{{Cols: []api.Col{}, Indexes: []int{}}}}
	areSame(t, "lists within", a, b, true)
	a.Cells[0].Intent.Keys, b.Cells[0].Intent.Keys = [][]byte{nil}, [][]byte{{}}
	areSame(t, "keys", a, b, true)
	b.Cells[0].Intent.Keys = nil
	areSame(t, "a key of no bytes and no key", a, b, false)
	areSame(t, "an empty state and none", api.Result{States: make([]api.Status, 1)}, api.Result{}, false)
	areSame(t, "an empty cell and none", api.Result{Cells: make([]api.Cell, 1)}, api.Result{}, false)
	areSame(t, "an empty table and none", api.Result{Tables: make([]api.Table, 1)}, api.Result{}, false)
}

// P15.2: one part at a time that is unlike: every field, however deep, each
// list longer, shorter, none, or with its parts in another order.
func TestSameResultOfOnePartUnlike(t *testing.T) {
	r := fullResult()
	count := 0
	try := func(what string) {
		count++
		areSame(t, what, r, fullResult(), false)
	}
	parts("", reflect.ValueOf(&r).Elem(), func(name string, v reflect.Value) {
		old := reflect.New(v.Type()).Elem()
		old.Set(v)
		switch v.Kind() {
		case reflect.Bool:
			v.SetBool(!v.Bool())
			try(name)
		case reflect.Uint8, reflect.Uint64:
			for _, n := range []uint64{v.Uint() + 1, v.Uint() ^ 128, v.Uint() ^ 1<<63} {
				if v.SetUint(n); v.Uint() != old.Uint() {
					try(fmt.Sprint(name, n))
				}
			}
		case reflect.Int, reflect.Int64:
			for _, n := range []int64{v.Int() + 1, -v.Int() - 1, v.Int() ^ 1<<32} {
				v.SetInt(n)
				try(fmt.Sprint(name, n))
			}
		case reflect.String:
			for _, s := range []string{"", v.String() + "x", "T" + v.String()[1:]} {
				v.SetString(s)
				try(name + s)
			}
		case reflect.Slice:
			v.Set(reflect.Append(old.Slice3(0, old.Len(), old.Len()), reflect.Zero(v.Type().Elem())))
			try(name + " longer")
			if old.Len() > 0 {
				v.Set(old.Slice(0, old.Len()-1))
				try(name + " shorter")
				v.SetZero()
				try(name + " none")
			}
			if old.Len() > 1 {
				v.Set(reflect.AppendSlice(old.Slice3(1, old.Len(), old.Len()), old.Slice(0, 1)))
				try(name + " in another order")
			}
		}
		v.Set(old)
	})
	areSame(t, "every field", r, fullResult(), true)
	if count < 250 {
		t.Errorf("%d parts only", count)
	}
}
