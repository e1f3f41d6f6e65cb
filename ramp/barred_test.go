package ramp

import (
	"testing"

	"plenum/api"
)

// P17.1: barred by a key that was read with a Ts below the version's; not by one
// read with just it, or behind it; nor by others, nor by nothing.
func TestBarred(t *testing.T) {
	for _, x := range []struct {
		seen []api.Seen
		v    api.Version
		want bool
	}{
		{nil, api.Version{}, false}, {nil, of(5), false}, {nil, of(5, "a", "b"), false}, {nil, of(greatest, ""), false},
		{list(), of(5, "a"), false}, {list(saw("a", 3)), of(5), false}, {list(none("a")), of(greatest), false}, {list(none("")), api.Version{Ts: 5}, false},

		{list(saw("a", 4)), of(5, "a"), true}, {list(saw("a", 5)), of(5, "a"), false}, {list(saw("a", 6)), of(5, "a"), false},
		{list(saw("a", 1)), of(5, "a"), true}, {list(saw("a", greatest)), of(5, "a"), false},
		{list(saw("b", 4)), of(5, "a"), false}, {list(saw("", 4)), of(5, "a"), false}, {list(saw("aa", 4)), of(5, "a"), false}, {list(saw("a", 4)), of(5, "aa"), false},
		{list(saw("", 4)), of(5, ""), true}, {list(saw("a\x00", 4)), of(5, "a"), false}, {list(saw("a\x00", 4)), of(5, "a\x00"), true}, {list(saw("\xff", 4)), of(5, "\xff"), true},

		{list(none("a")), of(0, "a"), false}, {list(none("a")), of(1, "a"), true}, {list(none("a")), of(greatest, "a"), true}, {list(saw("a", 3)), of(0, "a"), false},
		{list(saw("a", greatest-1)), of(greatest, "a"), true}, {list(saw("a", greatest)), of(greatest, "a"), false}, {list(saw("a", greatest)), of(greatest-1, "a"), false},
		{list(saw("a", 1<<63)), of(1, "a"), false}, {list(saw("a", 1)), of(1<<63, "a"), true},

		{list(saw("a", 4), saw("a", 6)), of(5, "a"), true}, {list(saw("a", 6), saw("a", 4)), of(5, "a"), true},
		{list(saw("a", 5), saw("a", 6)), of(5, "a"), false}, {list(saw("a", 6), saw("a", 5)), of(5, "a"), false},
		{list(none("a"), saw("a", 6)), of(5, "a"), true}, {list(saw("a", 6), none("a")), of(5, "a"), true}, {list(saw("a", 4), saw("a", 4)), of(5, "a"), true},

		{list(saw("c", 4)), of(5, "a", "b", "c"), true}, {list(saw("a", 4)), of(5, "a", "b", "c"), true}, {list(saw("b", 4)), of(5, "a", "b", "c"), true},
		{list(saw("x", 1), saw("a", 5), saw("c", 4)), of(5, "a", "b", "c"), true}, {list(saw("c", 4), saw("a", 5), saw("x", 1)), of(5, "a", "b", "c"), true},
		{list(saw("x", 1), saw("a", 5), saw("c", 6)), of(5, "a", "b", "c"), false}, {list(saw("a", 4)), of(5, "b", "b", "a", "a"), true}, {list(saw("a", 4)), of(5, "c", "b", "a"), true},
	} {
		if got := Barred(x.seen, x.v); got != x.want {
			t.Errorf("Barred(%s, Ts %d, %q): %v, want %v", told(x.seen), x.v.Ts, x.v.Keys, got, x.want)
		}
	}
}

// P17.1: which transaction it was doesn't count, nor what what was seen wrote
// beside, nor what the version says.
func TestBarredByKeyAndTsAlone(t *testing.T) {
	v := api.Version{Ts: 5, Txn: 7, Keys: texts("a", "b")}
	for _, x := range []api.Seen{by(7, saw("a", 4, "a", "b")), by(0, saw("a", 4)), by(greatest, saw("a", 4, "x")), by(5, saw("a", 4, "b"))} {
		if !Barred(list(x), v) {
			t.Errorf("%s: it isn't barred", told(list(x)))
		}
	}
	for _, x := range []api.Seen{by(7, saw("c", 4, "a", "b")), by(0, saw("c", 0, "a")), by(7, saw("b", 5, "a", "c")), by(8, saw("b", 5))} {
		if Barred(list(x), v) {
			t.Errorf("%s: it is barred", told(list(x)))
		}
	}
	for _, v := range []api.Version{{Ts: 5, Keys: texts("a")}, {Ts: 5, Txn: greatest, Dead: true, Keys: texts("a")}, {Ts: 5, Txn: 4, Val: []byte("b"), Keys: texts("a")}} {
		if !Barred(list(saw("a", 4)), v) || Barred(list(saw("a", 5)), v) || Barred(list(saw("b", 4)), v) {
			t.Errorf("%+v", v)
		}
	}
}

// P17.1, P3: no key and the empty one are the same.
func TestBarredByTheEmptyKey(t *testing.T) {
	if !Barred([]api.Seen{{}}, api.Version{Ts: 1, Keys: [][]byte{{}}}) || !Barred([]api.Seen{{Key: []byte{}}}, api.Version{Ts: 1, Keys: [][]byte{nil}}) {
		t.Error("the empty key doesn't bar")
	}
	if Barred([]api.Seen{{}}, api.Version{Ts: 1, Keys: [][]byte{}}) || Barred([]api.Seen{}, api.Version{Ts: 1, Keys: [][]byte{nil}}) {
		t.Error("nothing bars")
	}
}

// P17.1: of all that two and a version of few keys may say.
func TestBarredInAllWays(t *testing.T) {
	keys := [][]string{{}, {"a"}, {"b"}, {"a", "b"}, {"b", "a"}, {"c"}, {"c", "a"}}
	for n := range 2 * 3 * 2 * 3 * 3 * len(keys) {
		draw := func(m int) int {
			x := n % m
			n /= m
			return x
		}
		one := saw([]string{"a", "b"}[draw(2)], uint64(draw(3)), "x")
		two := saw([]string{"a", "b"}[draw(2)], uint64(draw(3)), "a", "b", "c")
		v := of(uint64(draw(3)), keys[draw(len(keys))]...)
		want := false
		for _, k := range v.Keys {
			want = want || string(k) == string(one.Key) && one.Ts < v.Ts || string(k) == string(two.Key) && two.Ts < v.Ts
		}
		if got := Barred(list(one, two), v); got != want {
			t.Errorf("Barred(%s, Ts %d, %q): %v, want %v", told(list(one, two)), v.Ts, v.Keys, got, want)
		}
	}
}
