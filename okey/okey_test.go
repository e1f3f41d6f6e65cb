package okey

import (
	"bytes"
	"cmp"
	"math"
	"slices"
	"strings"
	"testing"

	"plenum/api"
)

func null() api.Value           { return api.Value{Kind: api.Null} }
func integer(n int64) api.Value { return api.Value{Kind: api.Int, N: n} }
func text(s string) api.Value   { return api.Value{Kind: api.Text, S: s} }
func of(kind int) api.Value     { return api.Value{Kind: kind, N: int64(kind), S: "s"} }

// rising are values of the three kinds, each greater than the one ahead.
func rising() []api.Value {
	l := []api.Value{null()}
	for _, n := range []int64{math.MinInt64, math.MinInt64 + 1, math.MinInt32, -257, -256, -255, -2, -1, 0, 1, 2,
		127, 128, 255, 256, 257, math.MaxUint32, math.MaxUint32 + 1, math.MaxInt64 - 1, math.MaxInt64} {
		l = append(l, integer(n))
	}
	for _, s := range []string{"", "\x00", "\x00\x00", "\x00\x00\x01", "\x00\x01", "\x00\x02", "\x00\xfe", "\x00\xff",
		"\x00\xff\x00", "\x00\xff\x00\x01", "\x00\xff\xff", "\x01", "\x01\x00", "\x02", "\x03", "a", "a\x00", "a\x00\x00",
		"a\x00\x01", "a\x00\xff", "a\x01", "aa", "ab", "a\xff", "b", "ü", "\xfe", "\xff", "\xff\x00", "\xff\x00\xff",
		"\xff\x01", "\xff\xff", "\xff\xff\xff"} {
		l = append(l, text(s))
	}
	return l
}

// lists are all lists of up to two of the values, and some longer ones.
func lists() [][]api.Value {
	values := rising()
	l := [][]api.Value{nil}
	for _, a := range values {
		l = append(l, []api.Value{a})
		for _, b := range values {
			l = append(l, []api.Value{a, b})
		}
	}
	l = append(l, values, values[:len(values)-1], values[1:])
	l = append(l, []api.Value{null(), null(), null()}, []api.Value{text(""), text(""), text("")})
	l = append(l, []api.Value{text("a"), integer(0), text("a")}, []api.Value{text("a"), integer(0), null(), null()})
	return l
}

// P2.1
func TestLess(t *testing.T) {
	values := rising()
	for i, a := range values {
		for j, b := range values {
			if got := Less(a, b); got != (i < j) {
				t.Errorf("Less(%v, %v): %v", a, b, got)
			}
		}
	}
}

// P2.1: by kind first, whatever the kinds are; of kinds that are neither Int
// nor Text nothing else counts.
func TestLessOfOtherKinds(t *testing.T) {
	kinds := []api.Value{of(math.MinInt), of(-2), of(-1), null(), integer(5), text("a"), of(3), of(4), of(math.MaxInt)}
	for i, a := range kinds {
		for j, b := range kinds {
			if got := Less(a, b); got != (i < j) {
				t.Errorf("Less(%v, %v): %v", a, b, got)
			}
			if got := Cmp([]api.Value{a}, []api.Value{b}); got != cmp.Compare(i, j) {
				t.Errorf("Cmp(%v, %v): %d", a, b, got)
			}
		}
	}
	for _, kind := range []int{math.MinInt, -1, api.Null, 3, math.MaxInt} {
		a, b := api.Value{Kind: kind, N: 1, S: "a"}, api.Value{Kind: kind, N: 2, S: "b"}
		if Less(a, b) || Less(b, a) || Cmp([]api.Value{a}, []api.Value{b}) != 0 {
			t.Errorf("kind %d: not alike", kind)
		}
	}
}

// P2.1: a Text's N and an Int's S don't count.
func TestLessLeavesOtherFieldsOut(t *testing.T) {
	pairs := [][2]api.Value{
		{{Kind: api.Int, N: 1, S: "a"}, {Kind: api.Int, N: 1, S: "b"}},
		{{Kind: api.Text, N: 1, S: "a"}, {Kind: api.Text, N: 2, S: "a"}},
	}
	for _, p := range pairs {
		if Less(p[0], p[1]) || Less(p[1], p[0]) || Cmp(p[:1], p[1:]) != 0 {
			t.Errorf("%v: not alike", p)
		}
		if !bytes.Equal(Put(p[0]), Put(p[1])) {
			t.Errorf("%v: other bytes", p)
		}
	}
	if !Less(api.Value{Kind: api.Int, N: 1, S: "b"}, api.Value{Kind: api.Int, N: 2, S: "a"}) {
		t.Error("an Int's S told")
	}
	if !Less(api.Value{Kind: api.Text, N: 2, S: "a"}, api.Value{Kind: api.Text, N: 1, S: "b"}) {
		t.Error("a Text's N told")
	}
}

// P2.1
func TestCmp(t *testing.T) {
	n, one, two, a := null(), integer(1), integer(2), text("a")
	rows := []struct {
		a, b []api.Value
		want int
	}{
		{nil, nil, 0},
		{nil, []api.Value{}, 0},
		{nil, []api.Value{n}, -1},
		{[]api.Value{}, []api.Value{of(math.MinInt)}, -1},
		{[]api.Value{n}, []api.Value{n, n}, -1},
		{[]api.Value{n, n}, []api.Value{one}, -1},
		{[]api.Value{one, two}, []api.Value{one, two}, 0},
		{[]api.Value{one, two}, []api.Value{two, one}, -1},
		{[]api.Value{one, a}, []api.Value{one, two}, 1},
		{[]api.Value{one, a, n}, []api.Value{one, a}, 1},
		{[]api.Value{one, a, n}, []api.Value{one, a, n}, 0},
		{[]api.Value{text("a"), text("b")}, []api.Value{text("ab")}, -1},
		{[]api.Value{text("a\x00")}, []api.Value{text("a"), text("z")}, 1},
	}
	for _, r := range rows {
		if got := Cmp(r.a, r.b); got != r.want {
			t.Errorf("Cmp(%v, %v): %d; want %d", r.a, r.b, got, r.want)
		}
		if got := Cmp(r.b, r.a); got != -r.want {
			t.Errorf("Cmp(%v, %v): %d; want %d", r.b, r.a, got, -r.want)
		}
	}
}

// P2.2
func TestPut(t *testing.T) {
	rows := []struct {
		l    []api.Value
		want string
	}{
		{nil, ""},
		{[]api.Value{null(), integer(1)}, "\x01\x02\x80\x00\x00\x00\x00\x00\x00\x01"},
		{[]api.Value{integer(0)}, "\x02\x80\x00\x00\x00\x00\x00\x00\x00"},
		{[]api.Value{integer(-1)}, "\x02\x7f\xff\xff\xff\xff\xff\xff\xff"},
		{[]api.Value{integer(math.MinInt64)}, "\x02\x00\x00\x00\x00\x00\x00\x00\x00"},
		{[]api.Value{integer(math.MaxInt64)}, "\x02\xff\xff\xff\xff\xff\xff\xff\xff"},
		{[]api.Value{integer(0x0102030405060708)}, "\x02\x81\x02\x03\x04\x05\x06\x07\x08"},
		{[]api.Value{text("")}, "\x03\x00\x01"},
		{[]api.Value{text("ab")}, "\x03ab\x00\x01"},
		{[]api.Value{text("\x00")}, "\x03\x00\xff\x00\x01"},
		{[]api.Value{text("a\x00\x00b")}, "\x03a\x00\xff\x00\xffb\x00\x01"},
		{[]api.Value{text("\xff\x01\x00\xff")}, "\x03\xff\x01\x00\xff\xff\x00\x01"},
		{[]api.Value{text("ü")}, "\x03\xc3\xbc\x00\x01"},
		{[]api.Value{text(""), text(""), null()}, "\x03\x00\x01\x03\x00\x01\x01"},
		{[]api.Value{of(-1), of(3), of(math.MinInt), of(math.MaxInt)}, "\x01\x01\x01\x01"},
		{[]api.Value{{Kind: api.Null, N: 7, S: "x"}}, "\x01"},
	}
	for _, r := range rows {
		if got := Put(r.l...); string(got) != r.want {
			t.Errorf("Put(%v): % x; want % x", r.l, got, r.want)
		}
	}
	if len(Put()) != 0 {
		t.Error("Put of nothing")
	}
}

// P2.2: what stands behind the list's length is neither read nor changed.
func TestPutLeavesItsArguments(t *testing.T) {
	l := []api.Value{integer(1), text("a\x00"), null(), integer(9)}
	b := Put(l[:2]...)
	if string(b) != "\x02\x80\x00\x00\x00\x00\x00\x00\x01\x03a\x00\xff\x00\x01" {
		t.Errorf("% x", b)
	}
	if !slices.Equal(l, []api.Value{integer(1), text("a\x00"), null(), integer(9)}) {
		t.Error(l)
	}
}

// P2.2, P2.4
func TestOfPut(t *testing.T) {
	for _, l := range lists() {
		got, e := Of(Put(l...))
		if e != api.OK || !slices.Equal(got, l) {
			t.Fatalf("%v: %v, %d", l, got, e)
		}
	}
	long := text(strings.Repeat("\x00\xff\x01x", 5000))
	if got, e := Of(Put(long, long)); e != api.OK || !slices.Equal(got, []api.Value{long, long}) {
		t.Error("a long text", e)
	}
	for _, b := range [][]byte{nil, {}} {
		if got, e := Of(b); e != api.OK || len(got) != 0 {
			t.Error("of nothing", got, e)
		}
	}
}

// P2.2: of other kinds only that they are Nulls in bytes comes back.
func TestOfOtherKinds(t *testing.T) {
	got, e := Of(Put(of(-1), api.Value{Kind: api.Int, N: 4, S: "x"}, api.Value{Kind: api.Text, N: 4, S: "x"}, of(3)))
	if e != api.OK || !slices.Equal(got, []api.Value{null(), integer(4), text("x"), null()}) {
		t.Error(got, e)
	}
}

// P2.2
func TestOfBytesOfNoList(t *testing.T) {
	for _, s := range []string{
		"\x00", "\x04", "\xff", "a", "\x01\x00", "\x01\x04", // no value begins so
		"\x02", "\x02\x80", "\x02\x80\x00\x00\x00\x00\x00\x00", // an Int that is too short
		"\x01\x02\x80\x00\x00\x00\x00\x00\x00",
		"\x02\x80\x00\x00\x00\x00\x00\x00\x01\x00", // something behind it
		"\x03", "\x03a", "\x03\x00", "\x03a\x00", "\x03\x01", "\x03a\x01", "\x03\xff", // a Text without an end
		"\x03\x00\xff", "\x03\x00\xff\x00", "\x03\x00\xff\x01", "\x03a\x00\xff\x00",
		"\x03\x00\x00", "\x03\x00\x00\x01", "\x03\x00\x02", "\x03\x00\xfe\x00\x01", "\x03a\x00b\x00\x01", // 00, and neither ff nor 01
		"\x03\x00\x01\x00", "\x03\x00\x01\x00\x01", "\x03\x00\x01a", "\x03\x00\x01\xff\x00\x01",
		"\x01\x01\x01\x05",
	} {
		if l, e := Of([]byte(s)); e != api.ErrKey || l != nil {
			t.Errorf("% x: %v, %d", s, l, e)
		}
	}
}

// everyBytes calls with all bytes of up to size that are of an alphabet.
func everyBytes(alphabet []byte, size int, call func(b []byte)) {
	var grow func(b []byte)
	grow = func(b []byte) {
		call(b)
		if len(b) == size {
			return
		}
		for _, c := range alphabet {
			grow(append(b[:len(b):len(b)], c))
		}
	}
	grow(nil)
}

// P2.2: of all short bytes, those that Of takes are their list's Put, and
// those that it doesn't take are no list's.
func TestOfEveryShortBytes(t *testing.T) {
	puts := map[string]bool{}
	var build func(l []api.Value)
	texts := []string{}
	everyBytes([]byte{0, 1, 2, 3, 'a', 0xff}, 3, func(b []byte) { texts = append(texts, string(b)) })
	const size = 6
	build = func(l []api.Value) {
		b := Put(l...)
		if len(b) > size {
			return
		}
		puts[string(b)] = true
		build(append(l[:len(l):len(l)], null()))
		for _, s := range texts {
			build(append(l[:len(l):len(l)], text(s)))
		}
	}
	build(nil)
	taken := 0
	everyBytes([]byte{0, 1, 2, 3, 'a', 0xff}, size, func(b []byte) {
		l, e := Of(b)
		if (e == api.OK) != puts[string(b)] || e != api.OK && (e != api.ErrKey || l != nil) {
			t.Fatalf("% x: %v, %d", b, l, e)
		}
		if e == api.OK {
			taken++
			if !bytes.Equal(Put(l...), b) {
				t.Fatalf("% x: %v", b, l)
			}
		}
	})
	if taken != len(puts) {
		t.Error(taken, len(puts))
	}
}

// P2.2: what Of answers keeps nothing of the bytes, nor do they change.
func TestOfSharesNothing(t *testing.T) {
	b := Put(text("abc"), integer(5), text("\x00"))
	whole := append(bytes.Clone(b), 4, 4)
	l, _ := Of(whole[:len(b)])
	for i := range whole {
		whole[i] = 'z'
	}
	if !slices.Equal(l, []api.Value{text("abc"), integer(5), text("\x00")}) {
		t.Error(l)
	}
	Of(b)
	if !bytes.Equal(b, Put(text("abc"), integer(5), text("\x00"))) {
		t.Error("Of changed its bytes")
	}
	whole = append(bytes.Clone(b), 0, 1)
	if _, e := Of(whole[:len(b)-1]); e != api.ErrKey {
		t.Error("what lies behind the length was read")
	}
}

// P2.4
func TestOrder(t *testing.T) {
	all := lists()
	puts := make([][]byte, len(all))
	for i, l := range all {
		puts[i] = Put(l...)
	}
	for i, a := range all {
		for j, b := range all {
			if c := Cmp(a, b); c != bytes.Compare(puts[i], puts[j]) {
				t.Fatalf("%v, %v: Cmp %d; % x, % x", a, b, c, puts[i], puts[j])
			}
		}
	}
}

// P2.4: a list's bytes stand ahead of those of every list that goes on from
// it, and Next of them behind.
func TestOrderOfListsThatGoOn(t *testing.T) {
	for _, l := range lists() {
		if len(l) == 0 {
			continue
		}
		lo := Put(l...)
		hi := Next(lo)
		for _, v := range rising() {
			more := Put(append(l[:len(l):len(l)], v)...)
			if !Within(more, lo, hi) {
				t.Fatalf("% x isn't within % x, % x", more, lo, hi)
			}
		}
	}
}

// P2.3
func TestNext(t *testing.T) {
	rows := [][2]string{
		{"", ""}, {"\xff", ""}, {"\xff\xff", ""}, {"\xff\xff\xff\xff\xff", ""},
		{"a\xff", "b"}, {"a", "b"}, {"\x00", "\x01"}, {"\xfe", "\xff"}, {"\xfe\xff\xff", "\xff"},
		{"a\xff\xff\xff", "b"}, {"\xffa", "\xffb"}, {"\xff\x00", "\xff\x01"}, {"a\xffb", "a\xffc"},
		{"a\xfe", "a\xff"}, {"\x00\x00", "\x00\x01"}, {"\x00\xff", "\x01"}, {"ab\xfe\xff", "ab\xff"},
		{"\xff\xfe\xff", "\xff\xff"},
	}
	for _, r := range rows {
		if got := Next([]byte(r[0])); string(got) != r[1] {
			t.Errorf("Next(% x): % x; want % x", r[0], got, r[1])
		}
	}
	if len(Next(nil)) != 0 {
		t.Error("Next of nil")
	}
}

// P2.3: of all short bytes, those within b and Next of b are those that begin
// with b.
func TestNextBoundsJustThoseThatBeginSo(t *testing.T) {
	var all [][]byte
	everyBytes([]byte{0, 1, 'a', 0xfe, 0xff}, 4, func(b []byte) { all = append(all, bytes.Clone(b)) })
	for _, b := range all {
		next := Next(b)
		for _, k := range all {
			if Within(k, b, next) != bytes.HasPrefix(k, b) {
				t.Fatalf("% x, Next % x: % x", b, next, k)
			}
		}
	}
}

// P2.3
func TestNextSharesNothing(t *testing.T) {
	b := []byte("ab\xffcd")
	n := Next(b[:3])
	if string(n) != "ac" || string(b) != "ab\xffcd" {
		t.Fatalf("% x, % x", n, b)
	}
	n = append(n, 'x', 'y')
	n[0] = 'z'
	if string(b) != "ab\xffcd" {
		t.Errorf("% x", b)
	}
}

// P2.3
func TestWithin(t *testing.T) {
	rows := []struct {
		k, lo, hi string
		want      bool
	}{
		{"b", "a", "", true}, {"", "", "", true}, {"\xff\xff", "", "", true}, {"a", "b", "", false},
		{"", "a", "", false}, {"a", "a", "", true}, {"a", "a", "b", true}, {"b", "a", "b", false},
		{"a\xff\xff", "a", "b", true}, {"a", "a", "a", false}, {"a", "a\x00", "", false}, {"a\x00", "a", "a\x00", false},
		{"a", "a", "a\x00", true}, {"", "", "a", true}, {"", "", "\x00", true}, {"\x00", "", "\x00", false},
		{"b", "c", "a", false}, {"b", "a", "a", false}, {"c", "a", "b", false}, {"\x80", "\x7f", "\x81", true},
		{"ab", "b", "c", false}, {"ba", "b", "c", true},
	}
	for _, r := range rows {
		if got := Within([]byte(r.k), []byte(r.lo), []byte(r.hi)); got != r.want {
			t.Errorf("Within(% x, % x, % x): %v", r.k, r.lo, r.hi, got)
		}
	}
	if !Within(nil, nil, nil) || !Within([]byte{0}, nil, nil) || Within(nil, []byte{0}, nil) || !Within(nil, nil, []byte{0}) {
		t.Error("nil")
	}
}
