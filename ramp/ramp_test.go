package ramp

import (
	"bytes"
	"fmt"
	"math"
	"strings"
	"testing"

	"plenum/api"
)

const greatest = uint64(math.MaxUint64)

// texts answers lists of bytes.
func texts(l ...string) [][]byte {
	var out [][]byte
	for _, s := range l {
		out = append(out, []byte(s))
	}
	return out
}

// of answers a version of a transaction whose number isn't its Ts.
func of(ts uint64, keys ...string) api.Version {
	return api.Version{Ts: ts, Txn: ts + 10, Val: []byte("value"), Keys: texts(keys...)}
}

// saw answers what was seen of such a transaction.
func saw(key string, ts uint64, keys ...string) api.Seen {
	return api.Seen{Key: []byte(key), Ts: ts, Txn: ts + 10, Keys: texts(keys...)}
}

// by says which transaction it was, instead.
func by(txn uint64, x api.Seen) api.Seen {
	x.Txn = txn
	return x
}

// none answers that there was nothing to be seen.
func none(key string) api.Seen {
	return api.Seen{Key: []byte(key)}
}

// cell answers a key with versions.
func cell(key string, l ...api.Version) api.Cell {
	return api.Cell{Key: []byte(key), Versions: l}
}

// span answers the keys from lo up to hi.
func span(lo, hi string) api.Span {
	return api.Span{Lo: []byte(lo), Hi: []byte(hi)}
}

// list and cells are short for lists of several.
func list(l ...api.Seen) []api.Seen  { return l }
func cells(l ...api.Cell) []api.Cell { return l }

// told tells what was seen: nothing and empty are the same (P3).
func told(l []api.Seen) string {
	var s []string
	for _, x := range l {
		s = append(s, fmt.Sprintf("%q %d of %d %q", x.Key, x.Ts, x.Txn, x.Keys))
	}
	return strings.Join(s, "; ")
}

// part answers whether a transaction is seen in part, as P17.3 says it.
func part(l []api.Seen) bool {
	for _, x := range l {
		for _, y := range l {
			for _, k := range x.Keys {
				if bytes.Equal(k, y.Key) && y.Ts < x.Ts {
					return true
				}
			}
		}
	}
	return false
}

// The example of the chapter.
func TestExample(t *testing.T) {
	got, need := Choose(nil, api.Span{}, cells(cell("a", of(5, "a", "b")), cell("b", of(3, "b"))))
	if told(got) != told(list(saw("a", 5, "a", "b"))) || told(need) != told(list(saw("b", 5, "a", "b"))) {
		t.Errorf("got %s, need %s", told(got), told(need))
	}
}

// P17.4: what was seen ahead keeps a later read from seeing the half of what was
// not seen then: of b as it was, a is read as it was, too.
func TestNeverAPart(t *testing.T) {
	ahead := list(saw("b", 3, "b"))
	got, need := Choose(ahead, span("a", "b"), cells(cell("a", of(5, "a", "b"), of(3, "a"))))
	if told(got) != told(list(saw("a", 3, "a"))) || len(need) != 0 {
		t.Errorf("got %s, need %s", told(got), told(need))
	}
	ahead = list(saw("a", 5, "a", "b"))
	got, need = Choose(ahead, span("b", ""), cells(cell("b", of(3, "b"))))
	if len(got) != 0 || told(need) != told(list(saw("b", 5, "a", "b"))) {
		t.Errorf("got %s, need %s", told(got), told(need))
	}
	if Fractured(append(ahead, need...)) || !Fractured(append(ahead, saw("b", 3, "b"))) {
		t.Error("Fractured")
	}
}
