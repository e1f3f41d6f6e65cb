package shard

import (
	"math/rand"
	"slices"
	"testing"

	"plenum/api"
)

// span answers the keys from lo up to hi.
func span(lo, hi string) api.Span {
	return api.Span{Lo: []byte(lo), Hi: []byte(hi)}
}

// The example of the chapter.
func TestExample(t *testing.T) {
	if n := Pick(texts("b", "d"), []byte("c")); n != 1 {
		t.Errorf("%d, want 1", n)
	}
}

// P16.2: how many of bounds aren't above the key: none; the key is one; below
// all, above all; bounds alike; bounds that don't rise are counted, too.
func TestPick(t *testing.T) {
	for _, x := range []struct {
		bounds []string
		key    string
		want   int
	}{
		{nil, "", 0}, {nil, "x", 0}, {nil, "\xff\xff", 0},
		{[]string{"b", "d"}, "", 0}, {[]string{"b", "d"}, "a\xff\xff", 0}, {[]string{"b", "d"}, "b", 1}, {[]string{"b", "d"}, "b\x00", 1},
		{[]string{"b", "d"}, "c\xff", 1}, {[]string{"b", "d"}, "d", 2}, {[]string{"b", "d"}, "d\x00", 2}, {[]string{"b", "d"}, "\xff", 2},
		{[]string{"b", "b\x00", "ba"}, "b", 1}, {[]string{"b", "b\x00", "ba"}, "b\x00", 2}, {[]string{"b", "b\x00", "ba"}, "b\x00\xff", 2}, {[]string{"b", "b\x00", "ba"}, "bb", 3},
		{[]string{""}, "", 1}, {[]string{""}, "x", 1}, {[]string{"", "\x00"}, "", 1}, {[]string{"", "\x00"}, "\x00", 2},
		{[]string{"b", "b", "b"}, "a", 0}, {[]string{"b", "b", "b"}, "b", 3}, {[]string{"b", "b", "d", "d"}, "c", 2}, {[]string{"", "", "a"}, "", 2},
		{[]string{"d", "b"}, "c", 1}, {[]string{"z", "b", "y", "a"}, "c", 2}, {[]string{"\xff", "a"}, "\xfe", 1},
	} {
		if got := Pick(texts(x.bounds...), []byte(x.key)); got != x.want {
			t.Errorf("Pick(%q, %q): %d, want %d", x.bounds, x.key, got, x.want)
		}
	}
	if Pick(texts("", "a"), nil) != 1 || Pick([][]byte{nil, nil, {0}}, nil) != 2 {
		t.Error("no key isn't the empty one")
	}
}

// P16.2: the parts from that of Lo up to that of the last key below Hi, up to the
// last of all, if Hi is nothing; none, if the span has no keys.
func TestParts(t *testing.T) {
	two := []string{"b", "d"}
	for _, x := range []struct {
		bounds []string
		s      api.Span
		want   []int
	}{
		{nil, span("", ""), []int{0}}, {nil, span("a", "b"), []int{0}}, {nil, span("a", "a"), nil}, {nil, span("b", "a"), nil}, {nil, span("x", ""), []int{0}},
		{two, span("", ""), []int{0, 1, 2}}, {two, span("a", ""), []int{0, 1, 2}}, {two, span("b", ""), []int{1, 2}}, {two, span("c", ""), []int{1, 2}},
		{two, span("d", ""), []int{2}}, {two, span("e", ""), []int{2}},
		{two, span("", "a"), []int{0}}, {two, span("", "b"), []int{0}}, {two, span("", "b\x00"), []int{0, 1}}, {two, span("", "c"), []int{0, 1}},
		{two, span("", "d"), []int{0, 1}}, {two, span("", "d\x00"), []int{0, 1, 2}}, {two, span("", "z"), []int{0, 1, 2}},
		{two, span("a", "b"), []int{0}}, {two, span("b", "d"), []int{1}}, {two, span("b", "b\x00"), []int{1}}, {two, span("c", "d\x00"), []int{1, 2}},
		{two, span("a\xff", "b"), []int{0}}, {two, span("c\xff", "d"), []int{1}}, {two, span("d", "d\x00"), []int{2}}, {two, span("x", "z"), []int{2}},
		{two, span("b", "b"), nil}, {two, span("d", "b"), nil}, {two, span("b\x00", "b"), nil}, {two, span("z", "a"), nil}, {two, span("d", "c"), nil},
		{[]string{"", "b"}, span("", "\x00"), []int{1}}, {[]string{"", "b"}, span("", ""), []int{1, 2}}, {[]string{"", "b"}, span("b", "c"), []int{2}},
		{[]string{"b", "b"}, span("a", "b"), []int{0}}, {[]string{"b", "b"}, span("b", "c"), []int{2}}, {[]string{"b", "b"}, span("b", ""), []int{2}},
		{[]string{"b", "b"}, span("a", "c"), []int{0, 1, 2}}, {[]string{"b", "b\x00"}, span("b", "b\x00"), []int{1}}, {[]string{"b", "b\x00"}, span("b", "b\x00\x00"), []int{1, 2}},
	} {
		got := Parts(texts(x.bounds...), x.s)
		if !slices.Equal(got, x.want) {
			t.Errorf("Parts(%q, %q to %q): %v, want %v", x.bounds, x.s.Lo, x.s.Hi, got, x.want)
		}
	}
	if got := Parts(texts("b"), api.Span{}); !slices.Equal(got, []int{0, 1}) {
		t.Errorf("of all keys: %v", got)
	}
}

// drawText draws a text of few bytes, mostly a short one.
func drawText(r *rand.Rand) string {
	var b []byte
	for range r.Intn(4) {
		b = append(b, "\x00\x01ab\xff"[r.Intn(5)])
	}
	return string(b)
}

// P16.2: with rising bounds just those parts are told in which a key of the span
// lies: a part's first key or Lo is there, if any is.
func TestPartsHaveKeys(t *testing.T) {
	r := rand.New(rand.NewSource(1))
	for range 20000 {
		var bounds []string
		for range r.Intn(8) {
			bounds = append(bounds, drawText(r))
		}
		slices.Sort(bounds)
		bounds = slices.Compact(bounds)
		lo, hi := drawText(r), drawText(r)
		in := map[int]int{}
		for _, key := range append(slices.Clone(bounds), lo) {
			if lo <= key && (hi == "" || key < hi) {
				part := 0
				for part < len(bounds) && bounds[part] <= key {
					part++
				}
				if got := Pick(texts(bounds...), []byte(key)); got != part {
					t.Fatalf("Pick(%q, %q): %d, want %d", bounds, key, got, part)
				}
				in[part]++
			}
		}
		var want []int
		for part := range len(bounds) + 1 {
			if in[part] > 0 {
				want = append(want, part)
			}
		}
		if got := Parts(texts(bounds...), span(lo, hi)); !slices.Equal(got, want) {
			t.Fatalf("Parts(%q, %q to %q): %v, want %v", bounds, lo, hi, got, want)
		}
	}
}
