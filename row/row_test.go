package row

import (
	"bytes"
	"math"
	"math/big"
	"slices"
	"strings"
	"testing"

	"plenum/api"
	"plenum/num"
)

func null() api.Value           { return api.Value{Kind: api.Null} }
func integer(n int64) api.Value { return api.Value{Kind: api.Int, N: n} }
func text(s string) api.Value   { return api.Value{Kind: api.Text, S: s} }

// written answers what a new Writer holds once call has written with it.
func written(call func(w *Writer)) []byte {
	w := &Writer{}
	call(w)
	return w.Bytes()
}

func number(n uint64) []byte { return written(func(w *Writer) { w.N(n) }) }

// numbers are all powers of two with their neighbours: every edge at which a
// number gets another group is among them, and so is the greatest.
func numbers() []uint64 {
	l := []uint64{0, math.MaxUint64, math.MaxUint64 - 1, 300, 0x0102030405060708, 0xfffefdfcfbfaf9f8}
	for i := range 64 {
		for d := range uint64(5) {
			l = append(l, 1<<i+d-2)
		}
	}
	return l
}

// byDivision answers a number's bytes as the document says them, by division
// in unbounded numbers.
func byDivision(n uint64) []byte {
	base, rest := big.NewInt(128), new(big.Int)
	left := new(big.Int).SetUint64(n)
	var b []byte
	for {
		left.QuoRem(left, base, rest)
		c := byte(rest.Uint64())
		if len(b) > 0 {
			c += 128
		}
		b = append([]byte{c}, b...)
		if left.Sign() == 0 {
			return b
		}
	}
}

// everyBytes calls with all bytes of up to size that are of an alphabet.
func everyBytes(alphabet []byte, size int, call func(b []byte)) {
	var grow func(b []byte)
	grow = func(b []byte) {
		call(b)
		if len(b) == size {
			return
		}
		for _, c := range alphabet {
			grow(append(b[:len(b):len(b)], c))
		}
	}
	grow(nil)
}

// P3.1
func TestNumbersWritten(t *testing.T) {
	for _, c := range []struct {
		n uint64
		b string
	}{
		{0, "\x00"}, {1, "\x01"}, {5, "\x05"}, {126, "\x7e"}, {127, "\x7f"},
		{128, "\x81\x00"}, {129, "\x81\x01"}, {255, "\x81\x7f"}, {256, "\x82\x00"}, {300, "\x82\x2c"},
		{1<<14 - 1, "\xff\x7f"}, {1 << 14, "\x81\x80\x00"}, {1<<21 - 1, "\xff\xff\x7f"}, {1 << 21, "\x81\x80\x80\x00"},
		{1<<63 - 1, "\xff\xff\xff\xff\xff\xff\xff\xff\x7f"},
		{1 << 63, "\x81\x80\x80\x80\x80\x80\x80\x80\x80\x00"},
		{math.MaxUint64, "\x81\xff\xff\xff\xff\xff\xff\xff\xff\x7f"},
	} {
		if b := number(c.n); string(b) != c.b {
			t.Errorf("N(%d): % x; want % x", c.n, b, c.b)
		}
	}
	for _, n := range numbers() {
		if b := number(n); !bytes.Equal(b, byDivision(n)) {
			t.Fatalf("N(%d): % x; want % x", n, b, byDivision(n))
		}
	}
}

// P3.1
func TestSeveralNumbersWritten(t *testing.T) {
	var one []byte
	for _, n := range numbers() {
		one = append(one, number(n)...)
	}
	all := numbers()
	if b := written(func(w *Writer) { w.N(all...) }); !bytes.Equal(b, one) {
		t.Error("numbers at once stand otherwise than one behind the other")
	}
	if !slices.Equal(all, numbers()) {
		t.Error("N changed its numbers")
	}
	if b := written(func(w *Writer) { w.N(); w.N([]uint64{}...); w.N(nil...) }); len(b) != 0 {
		t.Errorf("no numbers: % x", b)
	}
	if b := written(func(w *Writer) { w.N(all[3:5:5]...); w.N(1) }); !bytes.Equal(b, append(append(number(all[3]), number(all[4])...), 1)) {
		t.Errorf("two of a list, and one: % x", b)
	}
}

// P3.1
func TestNumbersOfEitherSignWritten(t *testing.T) {
	for _, c := range []struct {
		n int64
		b string
	}{
		{0, "\x00"}, {-1, "\x01"}, {1, "\x02"}, {-3, "\x05"}, {63, "\x7e"}, {-64, "\x7f"}, {64, "\x81\x00"}, {-65, "\x81\x01"},
		{math.MaxInt64, "\x81\xff\xff\xff\xff\xff\xff\xff\xff\x7e"},
		{math.MinInt64, "\x81\xff\xff\xff\xff\xff\xff\xff\xff\x7f"},
	} {
		if b := written(func(w *Writer) { w.I(c.n) }); string(b) != c.b {
			t.Errorf("I(%d): % x; want % x", c.n, b, c.b)
		}
	}
	for _, u := range numbers() {
		n := int64(u)
		if b := written(func(w *Writer) { w.I(n) }); !bytes.Equal(b, number(num.Zig(n))) {
			t.Fatalf("I(%d): % x", n, b)
		}
	}
}

// P3.1
func TestTextsWritten(t *testing.T) {
	for _, s := range []string{"", "a", "ab", "\x00", "\xff\x80\x00", "ü", strings.Repeat("x", 127), strings.Repeat("y", 128),
		strings.Repeat("z", 1000), strings.Repeat("z", 1001), strings.Repeat("\x80", 70000)} {
		want := append(number(uint64(len(s))), s...)
		if b := written(func(w *Writer) { w.Text([]byte(s)) }); !bytes.Equal(b, want) {
			t.Errorf("a text of %d bytes", len(s))
		}
	}
	if b := written(func(w *Writer) { w.Text(nil) }); string(b) != "\x00" {
		t.Errorf("nil: % x", b)
	}
	if b := written(func(w *Writer) { w.Text([]byte("abcd")[1:3]) }); string(b) != "\x02bc" {
		t.Errorf("a piece: % x", b)
	}
}

// P3.1
func TestValuesWritten(t *testing.T) {
	for _, c := range []struct {
		v api.Value
		b string
	}{
		{null(), "\x00"},
		{api.Value{Kind: api.Null, N: 5, S: "s"}, "\x00"},
		{integer(0), "\x01\x00"}, {integer(-3), "\x01\x05"},
		{api.Value{Kind: api.Int, N: 150, S: "s"}, "\x01\x82\x2c"},
		{integer(math.MinInt64), "\x01\x81\xff\xff\xff\xff\xff\xff\xff\xff\x7f"},
		{text(""), "\x02\x00"}, {text("z"), "\x02\x01z"},
		{api.Value{Kind: api.Text, N: 5, S: "\x00\xff"}, "\x02\x02\x00\xff"},
		{text(strings.Repeat("a", 1000)), "\x02\x87\x68" + strings.Repeat("a", 1000)},
		{text(strings.Repeat("a", 1001)), "\x02\x87\x69" + strings.Repeat("a", 1001)},
		{api.Value{Kind: 3, N: 5, S: "s"}, "\x00"}, {api.Value{Kind: -1, N: 5, S: "s"}, "\x00"},
		{api.Value{Kind: math.MaxInt, N: 5}, "\x00"}, {api.Value{Kind: math.MinInt, S: "s"}, "\x00"},
		{api.Value{Kind: 257, N: 5}, "\x00"}, {api.Value{Kind: 258, S: "s"}, "\x00"},
	} {
		if b := written(func(w *Writer) { w.Value(c.v) }); string(b) != c.b {
			t.Errorf("%v: % x; want % x", c.v, b, c.b)
		}
	}
}

// P3.1
func TestBytes(t *testing.T) {
	var w Writer
	if len(w.Bytes()) != 0 {
		t.Error("a new one", w.Bytes())
	}
	w.N(300, 0)
	w.I(-3)
	w.Text([]byte("ab"))
	w.Value(text("z"))
	const want = "\x82\x2c\x00\x05\x02ab\x02\x01z"
	if string(w.Bytes()) != want || string(w.Bytes()) != want {
		t.Errorf("% x", w.Bytes())
	}
	w.Value(null())
	w.Value(integer(1))
	if string(w.Bytes()) != want+"\x00\x01\x02" {
		t.Errorf("% x", w.Bytes())
	}
}

// P3.1, with the rule P2: neither an argument nor an answer is what the Writer
// keeps.
func TestWriterSharesNothing(t *testing.T) {
	w := &Writer{}
	s := []byte("abc")
	w.Text(s)
	s[0] = 'z'
	first := w.Bytes()
	second := w.Bytes()
	first[1] = 'y'
	first = append(first, 'x', 'x')
	w.N(7)
	if string(second) != "\x03abc" || string(w.Bytes()) != "\x03abc\x07" || string(first) != "\x03ybcxx" || string(s) != "zbc" {
		t.Errorf("% x, % x, % x", first, second, w.Bytes())
	}
	w.Text(w.Bytes())
	if string(w.Bytes()) != "\x03abc\x07\x05\x03abc\x07" {
		t.Errorf("% x", w.Bytes())
	}
}

// P3.1
func TestNilWriter(t *testing.T) {
	var w *Writer
	w.N()
	w.N(1, 2, math.MaxUint64)
	w.I(-1)
	w.Text([]byte("ab"))
	w.Text(nil)
	w.Value(null())
	w.Value(integer(5))
	w.Value(text("z"))
	w.Value(api.Value{Kind: 9})
	if len(w.Bytes()) != 0 {
		t.Error(w.Bytes())
	}
}

// reads are all ways to read something, each answering whether it told noughts.
func reads() map[string]func(r *Reader) bool {
	return map[string]func(r *Reader) bool{
		"N(0)":       func(r *Reader) bool { return r.N(0) == 0 },
		"N(max)":     func(r *Reader) bool { return r.N(math.MaxUint64) == 0 },
		"I":          func(r *Reader) bool { return r.I() == 0 },
		"Text(0)":    func(r *Reader) bool { return len(r.Text(0)) == 0 },
		"Text(max)":  func(r *Reader) bool { return len(r.Text(math.MaxInt)) == 0 },
		"Text(-1)":   func(r *Reader) bool { return len(r.Text(-1)) == 0 },
		"Text(min)":  func(r *Reader) bool { return len(r.Text(math.MinInt)) == 0 },
		"Value":      func(r *Reader) bool { return r.Value() == api.Value{} },
		"Left":       func(r *Reader) bool { return r.Left() == 0 },
		"N(1) twice": func(r *Reader) bool { return r.N(1) == 0 && r.N(1) == 0 },
	}
}

// failed holds a Reader against one that failed: noughts, and from then on.
func failed(t *testing.T, what string, r *Reader) {
	t.Helper()
	if r.Left() != 0 || r.End() != api.ErrRow {
		t.Errorf("%s: Left %d, End %d", what, r.Left(), r.End())
	}
	for range 2 {
		for name, read := range reads() {
			if !read(r) {
				t.Errorf("%s: %s told something", what, name)
			}
			if r.Left() != 0 || r.End() != api.ErrRow {
				t.Errorf("%s: behind %s: Left %d, End %d", what, name, r.Left(), r.End())
			}
		}
	}
}

// P3.2
func TestReaderThatNobodyMade(t *testing.T) {
	failed(t, "nil", nil)
	failed(t, "a zero value", &Reader{})
	failed(t, "new", new(Reader))
}

// P3.2
func TestReadOfNothing(t *testing.T) {
	for _, b := range [][]byte{nil, {}} {
		r := Read(b)
		if r.Left() != 0 || r.End() != api.OK {
			t.Error(r.Left(), r.End())
		}
		for name, read := range reads() {
			if name == "Left" {
				continue
			}
			r := Read(b)
			if !read(r) {
				t.Errorf("%s of nothing", name)
			}
			failed(t, name+" of nothing", r)
		}
	}
}

// P3.2
func TestNumbersRead(t *testing.T) {
	for _, n := range numbers() {
		b := append(number(n), 0xff, 0x80)
		for _, most := range []uint64{n, n + 1, math.MaxUint64} {
			if most < n {
				continue // there is none that is greater
			}
			if r := Read(b); r.N(most) != n || r.Left() != 2 {
				t.Fatalf("N(%d) of % x: Left %d", most, b, r.Left())
			}
		}
		for _, most := range []uint64{n - 1, n / 2, 0} {
			if most >= n {
				continue // there is none that is less
			}
			r := Read(b)
			if got := r.N(most); got != 0 {
				t.Fatalf("N(%d) of % x: %d", most, b, got)
			}
			failed(t, "a number that is too great", r)
		}
	}
}

// P3.2
func TestNumbersThatAreNone(t *testing.T) {
	for _, s := range []string{
		"\x80\x05", "\x80", "\x80\x00", "\x80\x80", "\x80\x80\x00", "\x80\x82\x2c", "\x80\x7f", "\x80\xff\x7f", // in more bytes than it needs
		"\x80\x81\xff\xff\xff\xff\xff\xff\xff\xff\x7f", "\x80\x80\x80\x80\x80\x80\x80\x80\x80\x00",
		"\x81", "\xff", "\x82\x80", "\xff\xff\xff", "\x81\xff\xff\xff\xff\xff\xff\xff\xff", // cut short
		"\x82\x80\x80\x80\x80\x80\x80\x80\x80\x00", // 2^64
		"\x82\x80\x80\x80\x80\x80\x80\x80\x80\x05",
		"\x83\xff\xff\xff\xff\xff\xff\xff\xff\x7f", "\xff\xff\xff\xff\xff\xff\xff\xff\xff\x7f", // 2^65 - 1, 2^70 - 1
		"\x81\x80\x80\x80\x80\x80\x80\x80\x80\x80\x00", "\x81\x80\x80\x80\x80\x80\x80\x80\x80\x80\x05", // 2^70
		"\x81" + strings.Repeat("\x80", 17) + "\x05", // that wraps to 5
		"\x81" + strings.Repeat("\x80", 100) + "\x05", strings.Repeat("\xff", 1000), strings.Repeat("\xff", 1000) + "\x7f",
		strings.Repeat("\x80", 1000), strings.Repeat("\x80", 1000) + "\x01",
	} {
		r := Read([]byte(s))
		if n := r.N(math.MaxUint64); n != 0 {
			t.Errorf("N of % x: %d", s, n)
		}
		failed(t, "a number that is none", r)
		r = Read([]byte(s))
		if n := r.I(); n != 0 {
			t.Errorf("I of % x: %d", s, n)
		}
		failed(t, "an I that is none", r)
		r = Read([]byte(s))
		if b := r.Text(math.MaxInt); len(b) != 0 {
			t.Errorf("Text of % x: % x", s, b)
		}
		failed(t, "a length that is none", r)
		r = Read([]byte(s))
		if v := r.Value(); v != null() {
			t.Errorf("Value of % x: %v", s, v)
		}
		failed(t, "a Kind that is none", r)
	}
}

// P3.2 and P3.4: of all short bytes, N takes just those that begin with a
// number that is written so, and reads just it.
func TestNumbersOfEveryShortBytes(t *testing.T) {
	sizes := map[string]int{}
	values := map[string]uint64{}
	for n := range uint64(1 << 14) {
		b := byDivision(n)
		sizes[string(b)] = len(b)
		values[string(b)] = n
	}
	for a := range 256 {
		for c := range 256 {
			b := []byte{byte(a), byte(c)}
			r := Read(b)
			got := r.N(math.MaxUint64)
			n, size := values[string(b[:1])], sizes[string(b[:1])]
			if size == 0 {
				n, size = values[string(b)], sizes[string(b)]
			}
			if size == 0 {
				if got != 0 || r.Left() != 0 || r.End() != api.ErrRow {
					t.Fatalf("% x: %d", b, got)
				}
				continue
			}
			if got != n || r.Left() != 2-size || (r.End() == api.OK) != (size == 2) {
				t.Fatalf("% x: %d, %d left; want %d", b, got, r.Left(), n)
			}
		}
	}
}

// P3.2
func TestNumbersOfEitherSignRead(t *testing.T) {
	for _, u := range numbers() {
		n := int64(u)
		if r := Read(written(func(w *Writer) { w.I(n) })); r.I() != n || r.End() != api.OK {
			t.Fatal(n)
		}
		if r := Read(number(u)); r.I() != num.Zag(u) || r.End() != api.OK {
			t.Fatal(u)
		}
	}
}

// P3.2
func TestTextsRead(t *testing.T) {
	for _, size := range []int{0, 1, 2, 127, 128, 1000, 1001, 16384} {
		s := strings.Repeat("\x80a", size)[:size]
		b := append(written(func(w *Writer) { w.Text([]byte(s)) }), 0xff)
		for _, most := range []int{size, size + 1, math.MaxInt} {
			if r := Read(b); string(r.Text(most)) != s || r.Left() != 1 {
				t.Errorf("%d of at most %d bytes: %d left", size, most, r.Left())
			}
		}
		for _, most := range []int{size - 1, size / 2, -1, -size - 1, math.MinInt} {
			if most >= size {
				continue // nothing is half of nothing
			}
			r := Read(b)
			if got := r.Text(most); len(got) != 0 {
				t.Errorf("%d of at most %d bytes: %d", size, most, len(got))
			}
			failed(t, "a text that is too long", r)
		}
	}
}

// P3.2
func TestTextsThatAreCutShort(t *testing.T) {
	for _, size := range []int{1, 2, 127, 128, 1000, 16384} {
		whole := written(func(w *Writer) { w.Text(make([]byte, size)) })
		for _, n := range []int{0, 1, 2, size/2 + 1, size, len(whole) - 1} {
			if n >= len(whole) {
				continue // it isn't cut
			}
			r := Read(whole[:n])
			if got := r.Text(math.MaxInt); len(got) != 0 {
				t.Errorf("%d of %d bytes: %d", n, len(whole), len(got))
			}
			failed(t, "a text that is cut short", r)
		}
	}
}

// P3.2: lengths that are more than there are bytes anywhere.
func TestTextsOfGreatLengths(t *testing.T) {
	for _, n := range []uint64{1, 3, 1 << 31, 1 << 32, 1<<63 - 1, 1 << 63, 1<<64 - 3, 1<<64 - 1} {
		for _, behind := range []string{"", "ab"} {
			r := Read(append(number(n), behind...))
			if n == 1 && behind != "" {
				continue // it is there
			}
			if b := r.Text(math.MaxInt); len(b) != 0 {
				t.Errorf("%d bytes: % x", n, b)
			}
			failed(t, "a text of a great length", r)
		}
	}
}

// P3.2
func TestValuesRead(t *testing.T) {
	for _, c := range []struct {
		b string
		v api.Value
	}{
		{"\x00", null()}, {"\x01\x00", integer(0)}, {"\x01\x05", integer(-3)}, {"\x01\x82\x2c", integer(150)},
		{"\x01\x81\xff\xff\xff\xff\xff\xff\xff\xff\x7f", integer(math.MinInt64)},
		{"\x01\x81\xff\xff\xff\xff\xff\xff\xff\xff\x7e", integer(math.MaxInt64)},
		{"\x02\x00", text("")}, {"\x02\x01z", text("z")}, {"\x02\x03\x00\x80\xff", text("\x00\x80\xff")},
		{"\x02\x87\x68" + strings.Repeat("a", 1000), text(strings.Repeat("a", 1000))},
	} {
		for _, behind := range []string{"", "\x02\x02", "\xff\xff\xff"} {
			r := Read([]byte(c.b + behind))
			if v := r.Value(); v != c.v || r.Left() != len(behind) || (r.End() == api.OK) != (behind == "") {
				t.Errorf("% x: %v, %d left", c.b, v, r.Left())
			}
		}
	}
}

// noValue are bytes that begin with no value.
func noValue() []string {
	return []string{
		"", "\x03", "\x04\x00", "\x7f", "\xff", "\x81\x00", "\x81\x01\x00", "\x81\x02\x00", "\x82\x00", "\x84\x80\x80\x80\x00", // a Kind that is none of the three
		"\x80", "\x80\x00", "\x80\x01\x00", "\x80\x02\x00", // a Kind in more bytes than it needs
		"\x01", "\x01\x80\x05", "\x01\x80", "\x01\x81", "\x01\x82\x80\x80\x80\x80\x80\x80\x80\x80\x00", // no I
		"\x02", "\x02\x01", "\x02\x80\x00", "\x02\x80\x01z", "\x02\x03ab", "\x02\x81\x00abc", // no text
		"\x02\x87\x68" + strings.Repeat("a", 999), "\x02\x87\x69" + strings.Repeat("a", 1001), "\x02\x87\x69" + strings.Repeat("a", 1000),
		"\x02\x81\xff\xff\xff\xff\xff\xff\xff\xff\x7f",
	}
}

// P3.2: of a value that fails nothing is told, not even the Kind that was
// there.
func TestValuesThatAreNone(t *testing.T) {
	for _, s := range noValue() {
		r := Read([]byte(s))
		if v := r.Value(); v != null() {
			t.Errorf("% x: %v", s, v)
		}
		failed(t, "a value that is none", r)
	}
}

// P3.2: what stands behind something that failed is never read.
func TestReaderThatFailed(t *testing.T) {
	good := "\x01\x02\x02\x01z\x00"
	for _, c := range []struct {
		name string
		bad  string
		read func(r *Reader)
	}{
		{"N", "\x05", func(r *Reader) { r.N(4) }},
		{"N", "\x80\x05", func(r *Reader) { r.N(9) }},
		{"I", "\x80\x05", func(r *Reader) { r.I() }},
		{"Text", "\x01", func(r *Reader) { r.Text(0) }},
		{"Text", "\x00", func(r *Reader) { r.Text(-1) }},
		{"Text", "\x0f", func(r *Reader) { r.Text(99) }},
		{"Value", "\x03", func(r *Reader) { r.Value() }},
		{"Value", "\x01\x80", func(r *Reader) { r.Value() }},
		{"Value", "\x02\x0f", func(r *Reader) { r.Value() }},
	} {
		r := Read([]byte("\x07" + c.bad + good))
		if r.N(7) != 7 || r.Left() != len(c.bad)+len(good) {
			t.Fatal(c.name)
		}
		c.read(r)
		failed(t, c.name, r)
	}
}

// P3.2: End and Left read nothing, and bytes that are left let nothing fail.
func TestLeftAndEnd(t *testing.T) {
	r := Read([]byte("\x82\x2c\x05\x02ab\x02\x01z"))
	for _, c := range []struct {
		read func() bool
		left int
	}{
		{func() bool { return true }, 9},
		{func() bool { return r.N(300) == 300 }, 7},
		{func() bool { return r.I() == -3 }, 6},
		{func() bool { return string(r.Text(2)) == "ab" }, 3},
		{func() bool { return r.Value() == text("z") }, 0},
	} {
		if !c.read() {
			t.Fatal("with so many left behind it:", c.left)
		}
		for range 2 {
			if r.Left() != c.left || (r.End() == api.OK) != (c.left == 0) || c.left > 0 && r.End() != api.ErrRow {
				t.Fatal(r.Left(), r.End(), c.left)
			}
		}
	}
	r.N(1)
	failed(t, "behind the end", r)
}

// P3.2, with the rule P2: the bytes are the caller's, what is told too, and
// nothing behind the length is read.
func TestReaderSharesNothing(t *testing.T) {
	b := []byte("\x02ab\x02cd\x05")
	r := Read(b[:6])
	first := r.Text(2)
	clear(b)
	second := r.Text(2)
	if r.Left() != 0 || r.End() != api.OK || string(first) != "ab" || string(second) != "cd" {
		t.Errorf("%q, %q, %d left", first, second, r.Left())
	}
	if r.N(5) != 0 || r.End() != api.ErrRow {
		t.Error("what lies behind the length was read")
	}
	b = []byte("\x02ab\x02cd")
	r = Read(b)
	first = r.Text(2)
	first[0] = 'z'
	_ = append(first, 'x', 'x', 'x')
	if string(r.Text(2)) != "cd" || string(b) != "\x02ab\x02cd" {
		t.Error("a text shares memory with the bytes")
	}
}

// rows are rows that may be: of no value, of each edge, of 32.
func rows() [][]api.Value {
	edges := []api.Value{null(), integer(0), integer(1), integer(-1), integer(63), integer(64), integer(-64), integer(-65),
		integer(math.MinInt64), integer(math.MaxInt64), text(""), text("x"), text("\x00"), text("\x80\xff"), text("ü"),
		text(strings.Repeat("a", 127)), text(strings.Repeat("b", 128)), text(strings.Repeat("c", 999)), text(strings.Repeat("d", 1000))}
	l := [][]api.Value{nil}
	for _, a := range edges {
		l = append(l, []api.Value{a}, slices.Repeat([]api.Value{a}, 31), slices.Repeat([]api.Value{a}, 32))
		for _, b := range edges {
			l = append(l, []api.Value{a, b})
		}
	}
	return append(l, edges)
}

// P3.3
func TestPut(t *testing.T) {
	for _, c := range []struct {
		l []api.Value
		b string
	}{
		{nil, "\x00"}, {[]api.Value{}, "\x00"}, {[]api.Value{null()}, "\x01\x00"},
		{[]api.Value{null(), integer(-3), text("ab")}, "\x03\x00\x01\x05\x02\x02ab"},
		{[]api.Value{{Kind: api.Null, N: 5, S: "s"}, {Kind: api.Int, N: 5, S: "s"}, {Kind: api.Text, N: 5, S: "s"}}, "\x03\x00\x01\x0a\x02\x01s"},
		{make([]api.Value, 32), "\x20" + strings.Repeat("\x00", 32)},
		{[]api.Value{text(strings.Repeat("a", 1000))}, "\x01\x02\x87\x68" + strings.Repeat("a", 1000)},
		{[]api.Value{{Kind: api.Null, S: strings.Repeat("a", 1001)}, {Kind: api.Int, S: strings.Repeat("a", 1001)}}, "\x02\x00\x01\x00"},
	} {
		if b, e := Put(c.l); e != api.OK || string(b) != c.b {
			t.Errorf("%v: % x, %d; want % x", c.l, b, e, c.b)
		}
	}
	for _, l := range rows() {
		b, e := Put(l)
		want := written(func(w *Writer) {
			w.N(uint64(len(l)))
			for _, v := range l {
				w.Value(v)
			}
		})
		if e != api.OK || !bytes.Equal(b, want) {
			t.Fatalf("%v: % x, %d", l, b, e)
		}
	}
}

// P3.3
func TestPutOfRowsThatMayNotBe(t *testing.T) {
	bad := []api.Value{{Kind: 3}, {Kind: -1}, {Kind: 4, N: 1, S: "s"}, {Kind: math.MaxInt}, {Kind: math.MinInt}, {Kind: 257}, {Kind: 258},
		text(strings.Repeat("a", 1001)), text(strings.Repeat("a", 5000))}
	var l [][]api.Value
	for _, v := range bad {
		l = append(l, []api.Value{v}, []api.Value{null(), integer(1), v}, []api.Value{v, text("a")},
			append(make([]api.Value, 31), v), append([]api.Value{v}, make([]api.Value, 31)...))
	}
	l = append(l, make([]api.Value, 33), make([]api.Value, 34), make([]api.Value, 128), make([]api.Value, 70000),
		slices.Repeat([]api.Value{text("a")}, 33), append(make([]api.Value, 32), bad[0]))
	for _, x := range l {
		if b, e := Put(x); e != api.ErrRow || b != nil {
			t.Errorf("%v: % x, %d", x, b, e)
		}
	}
}

// P3.3, with the rule P2.
func TestPutSharesNothing(t *testing.T) {
	whole := []api.Value{integer(1), text("ab"), {Kind: 9}}
	first, e := Put(whole[:2])
	second, _ := Put(whole[:2])
	if e != api.OK {
		t.Fatal("what lies behind the length was read")
	}
	clear(first)
	if string(second) != "\x02\x01\x02\x02\x02ab" || !slices.Equal(whole, []api.Value{integer(1), text("ab"), {Kind: 9}}) {
		t.Errorf("% x, %v", second, whole)
	}
}

// P3.3
func TestOf(t *testing.T) {
	for _, c := range []struct {
		b string
		l []api.Value
	}{
		{"\x00", nil}, {"\x01\x00", []api.Value{null()}}, {"\x02\x01\x05\x02\x01z", []api.Value{integer(-3), text("z")}},
		{"\x20" + strings.Repeat("\x00", 32), make([]api.Value, 32)},
		{"\x20" + strings.Repeat("\x02\x01\x00", 32), slices.Repeat([]api.Value{text("\x00")}, 32)},
		{"\x01\x02\x87\x68" + strings.Repeat("a", 1000), []api.Value{text(strings.Repeat("a", 1000))}},
	} {
		if l, e := Of([]byte(c.b)); e != api.OK || !slices.Equal(l, c.l) {
			t.Errorf("% x: %v, %d", c.b, l, e)
		}
	}
}

// P3.3
func TestOfBytesOfNoRow(t *testing.T) {
	bad := []string{
		"", "\x80", "\x80\x00", "\x80\x01\x00", "\x81", "\xff", "\x82\x80\x80\x80\x80\x80\x80\x80\x80\x00", // no number of values
		"\x01", "\x02\x00", "\x20" + strings.Repeat("\x00", 31), // too few values
		"\x00\x00", "\x01\x00\x00", "\x01\x01\x05\x05", "\x01\x02\x01zz", "\x20" + strings.Repeat("\x00", 33), // bytes behind a row
		"\x21" + strings.Repeat("\x00", 33), "\x7f" + strings.Repeat("\x00", 127), "\x81\x00" + strings.Repeat("\x00", 128), // too many values
		"\x81\xff\xff\xff\xff\xff\xff\xff\xff\x7f\x00",
	}
	for _, s := range noValue() {
		bad = append(bad, "\x01"+s, "\x02\x00"+s, "\x02"+s+"\x00", "\x03\x02\x01a"+s)
	}
	for _, s := range bad {
		if l, e := Of([]byte(s)); e != api.ErrRow || l != nil {
			t.Errorf("% x: %v, %d", s, l, e)
		}
	}
	if l, e := Of(nil); e != api.ErrRow || l != nil {
		t.Error("nil", l, e)
	}
}

// P3.3, with the rule P2.
func TestOfSharesNothing(t *testing.T) {
	b, _ := Put([]api.Value{integer(7), text("abc"), null()})
	whole := append(bytes.Clone(b), 0, 0)
	l, e := Of(whole[:len(b)])
	if e != api.OK || !bytes.Equal(whole[:len(b)], b) {
		t.Fatal(e, whole)
	}
	clear(whole)
	if !slices.Equal(l, []api.Value{integer(7), text("abc"), null()}) {
		t.Error(l)
	}
	if _, e := Of(b[:len(b)-1]); e != api.ErrRow {
		t.Error("what lies behind the length was read")
	}
}

// P3.4
func TestRowsThereAndBack(t *testing.T) {
	seen := map[string]int{}
	for i, l := range rows() {
		b, e := Put(l)
		got, f := Of(b)
		if e != api.OK || f != api.OK || !slices.Equal(got, l) {
			t.Fatalf("%v: %v, %d, %d", l, got, e, f)
		}
		if j, ok := seen[string(b)]; ok && !slices.Equal(rows()[j], l) {
			t.Fatalf("two rows with the same bytes: %v, %v", l, rows()[j])
		}
		seen[string(b)] = i
	}
}

// P3.4: all calls, one behind the other, and every beginning of what they
// wrote fails somewhere.
func TestAllThereAndBack(t *testing.T) {
	w := &Writer{}
	w.N(numbers()...)
	for _, u := range numbers() {
		w.I(int64(u))
		w.Text([]byte(strings.Repeat("t", int(u%200))))
		w.Value(integer(int64(u)))
		w.Value(text(strings.Repeat("v", int(u%300))))
		w.Value(null())
	}
	all := w.Bytes()
	same := func(r *Reader) bool {
		same := true
		for _, u := range numbers() {
			same = r.N(u) == u && same
		}
		for _, u := range numbers() {
			same = r.I() == int64(u) && same
			same = len(r.Text(200)) == int(u%200) && same
			same = r.Value() == integer(int64(u)) && same
			same = r.Value() == text(strings.Repeat("v", int(u%300))) && same
			same = r.Value() == null() && same
		}
		return same
	}
	if r := Read(all); !same(r) || r.End() != api.OK {
		t.Error("what was written isn't read again")
	}
	for n := 0; n < len(all); n += 97 {
		if r := Read(all[:n]); same(r) || r.Left() != 0 || r.End() != api.ErrRow {
			t.Fatal("a beginning was read whole:", n)
		}
	}
}

// shortValues are the values whose bytes are of the alphabet of
// TestRowsOfEveryShortBytes and at most four.
func shortValues(alphabet []byte) []api.Value {
	l := []api.Value{null()}
	for _, high := range []uint64{0, 1, 127} {
		for _, middle := range []uint64{0, 1, 127} {
			for _, low := range []uint64{0, 1, 2, 3, 5, 127} {
				l = append(l, integer(num.Zag(high<<14|middle<<7|low)))
			}
		}
	}
	everyBytes(alphabet, 2, func(b []byte) { l = append(l, text(string(b))) })
	return l
}

// P3.4: of all short bytes, those that Of takes are just the rows' Puts, and
// each the Put of what Of answers.
func TestRowsOfEveryShortBytes(t *testing.T) {
	alphabet := []byte{0, 1, 2, 3, 5, 0x7f, 0x80, 0x81, 0xff}
	const size = 5
	values := shortValues(alphabet)
	puts := map[string]bool{}
	var build func(l []api.Value)
	build = func(l []api.Value) {
		b, e := Put(l)
		if e != api.OK || len(b) > size {
			return
		}
		if len(l) != 4 { // a row of 4 begins with no byte of the alphabet
			puts[string(b)] = true
		}
		for _, v := range values {
			build(append(l[:len(l):len(l)], v))
		}
	}
	build(nil)
	taken := 0
	everyBytes(alphabet, size, func(b []byte) {
		l, e := Of(b)
		if (e == api.OK) != puts[string(b)] || e != api.OK && (e != api.ErrRow || l != nil) {
			t.Fatalf("% x: %v, %d", b, l, e)
		}
		if e == api.OK {
			taken++
			if again, f := Put(l); f != api.OK || !bytes.Equal(again, b) {
				t.Fatalf("% x: %v", b, l)
			}
		}
	})
	if taken != len(puts) || taken < 100 {
		t.Error(taken, len(puts))
	}
}
