package again

import (
	"math"
	"reflect"
	"testing"

	"plenum/api"
)

// counts answers a way to do commands whose answer tells how many were done.
func counts() func(api.Command) api.Result {
	n := uint64(0)
	return func(c api.Command) api.Result {
		n++
		return api.Result{Ts: n, Txn: c.Txn, Cells: []api.Cell{{Key: []byte{byte(n)}, Versions: []api.Version{{Val: []byte{byte(n)}}}}}}
	}
}

// told is what the n-th command that is done comes to.
func told(n, txn uint64) api.Result {
	do := counts()
	for range n - 1 {
		do(api.Command{})
	}
	return do(api.Command{Txn: txn})
}

var old = api.Result{Err: api.ErrRange}

// P15.1, P16.1: a client's last command is answered again as it was, whatever
// comes with it; an older one is ErrRange; each newer one is done. Each client
// has a last one of its own, client 0 none.
func TestDo(t *testing.T) {
	var a Answers
	do := counts()
	for i, x := range []struct {
		client, seq, txn uint64
		want             api.Result
	}{
		{1, 5, 1, told(1, 1)}, {1, 5, 1, told(1, 1)}, {1, 5, 2, told(1, 1)}, {1, 4, 1, old}, {1, 0, 1, old}, {1, 5, 3, told(1, 1)},
		{2, 5, 1, told(2, 1)}, {math.MaxUint64, 0, 4, told(3, 4)}, {math.MaxUint64, 0, 1, told(3, 4)}, {2, 4, 1, old}, {1, 5, 1, told(1, 1)},
		{1, 6, 1, told(4, 1)}, {1, 5, 1, old}, {1, 6, 2, told(4, 1)}, {2, 5, 2, told(2, 1)}, {1, math.MaxUint64, 7, told(5, 7)}, {1, 7, 7, old},
		{0, 5, 1, told(6, 1)}, {0, 5, 1, told(7, 1)}, {0, 0, 1, told(8, 1)}, {0, math.MaxUint64, 1, told(9, 1)}, {1, math.MaxUint64, 1, told(5, 7)},
	} {
		got := a.Do(api.Command{Client: x.client, Seq: x.seq, Txn: x.txn}, do)
		if !reflect.DeepEqual(got, x.want) {
			t.Errorf("command %d, %+v: %+v", i, x, got)
		}
	}
}

// P15.1, P16.1: an error is answered again, too.
func TestErrorsAreKept(t *testing.T) {
	var a Answers
	refuses := func(api.Command) api.Result { return api.Result{Err: api.ErrBusy} }
	for range 2 {
		if r := a.Do(api.Command{Client: 1, Seq: 1}, refuses); r.Err != api.ErrBusy {
			t.Error(r)
		}
		refuses = counts()
	}
}

// P2: what is kept is changed with none of the answers.
func TestKeptApart(t *testing.T) {
	var a Answers
	do, c := counts(), api.Command{Client: 1, Seq: 1}
	for range 3 {
		r := a.Do(c, do)
		if !reflect.DeepEqual(r, told(1, 0)) {
			t.Fatal(r)
		}
		r.Cells[0].Key[0], r.Cells[0].Versions[0].Val[0] = '!', '!'
		r.Cells[0].Versions[0].Dead = true
	}
}
