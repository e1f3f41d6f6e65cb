package num

import (
	"bytes"
	"math"
	"math/big"
	"testing"
)

// numbers are the edges of int64 and of its halves, with all their
// neighbours: every power of two, a little less, a little more, either sign.
func numbers() []int64 {
	l := []int64{math.MinInt64, math.MaxInt64, 0, 10, -10, 3037000499, 3037000500, -3037000499, -3037000500,
		math.MaxInt64 / 3, math.MinInt64 / 3, math.MaxInt64 / 7, math.MinInt64 / 7, math.MaxInt64 / 10}
	for i := range 63 {
		for d := int64(-2); d <= 2; d++ {
			l = append(l, 1<<i+d, -(1<<i)+d)
		}
	}
	return l
}

// unsigned are the numbers' bits, read as numbers from 0 on.
func unsigned() []uint64 {
	l := []uint64{0, 1, math.MaxUint64, 1 << 63, 1<<63 - 1, 1<<63 + 1, 0x0102030405060708, 0xfffefdfcfbfaf9f8}
	for _, n := range numbers() {
		l = append(l, uint64(n))
	}
	return l
}

type pairCall func(a, b int64) (int64, bool)

// against holds a call of two numbers against the same in unbounded numbers;
// want is nil where there is no number.
func against(t *testing.T, name string, call pairCall, want func(a, b *big.Int) *big.Int) {
	t.Helper()
	for _, a := range numbers() {
		for _, b := range numbers() {
			w := want(big.NewInt(a), big.NewInt(b))
			is := w != nil && w.IsInt64()
			var n int64
			if is {
				n = w.Int64()
			}
			if got, ok := call(a, b); got != n || ok != is {
				t.Fatalf("%s(%d, %d): %d, %v; want %d, %v", name, a, b, got, ok, n, is)
			}
		}
	}
}

// P1.1
func TestReckoningAgainstUnboundedNumbers(t *testing.T) {
	against(t, "Add", Add, func(a, b *big.Int) *big.Int { return a.Add(a, b) })
	against(t, "Sub", Sub, func(a, b *big.Int) *big.Int { return a.Sub(a, b) })
	against(t, "Mul", Mul, func(a, b *big.Int) *big.Int { return a.Mul(a, b) })
	against(t, "Div", Div, func(a, b *big.Int) *big.Int {
		if b.Sign() == 0 {
			return nil
		}
		return a.Quo(a, b)
	})
	against(t, "Mod", Mod, func(a, b *big.Int) *big.Int {
		if b.Sign() == 0 {
			return nil
		}
		return a.Rem(a, b)
	})
	for _, a := range numbers() {
		w := new(big.Int).Neg(big.NewInt(a))
		if got, ok := Neg(a); ok != w.IsInt64() || ok && got != w.Int64() || !ok && got != 0 {
			t.Fatalf("Neg(%d): %d, %v", a, got, ok)
		}
	}
}

// P1.1: the same, written out, at the edges that the document names.
func TestReckoningAtTheEdges(t *testing.T) {
	const least, greatest = math.MinInt64, math.MaxInt64
	for _, c := range []struct {
		name string
		call pairCall
		a, b int64
		n    int64
		ok   bool
	}{
		{"Add", Add, 2, 3, 5, true},
		{"Add", Add, greatest, 0, greatest, true},
		{"Add", Add, greatest, 1, 0, false},
		{"Add", Add, least, -1, 0, false},
		{"Add", Add, least, greatest, -1, true},
		{"Add", Add, least, least, 0, false},
		{"Sub", Sub, 2, 3, -1, true},
		{"Sub", Sub, 0, least, 0, false},
		{"Sub", Sub, -1, least, greatest, true},
		{"Sub", Sub, least, 1, 0, false},
		{"Sub", Sub, least, least, 0, true},
		{"Mul", Mul, -4, 5, -20, true},
		{"Mul", Mul, least, 0, 0, true},
		{"Mul", Mul, 0, least, 0, true},
		{"Mul", Mul, least, 1, least, true},
		{"Mul", Mul, least, -1, 0, false},
		{"Mul", Mul, -1, least, 0, false},
		{"Mul", Mul, -1 << 62, 2, least, true},
		{"Mul", Mul, 1 << 62, 2, 0, false},
		{"Mul", Mul, 1 << 32, 1 << 32, 0, false},
		{"Div", Div, 7, 2, 3, true},
		{"Div", Div, -7, 2, -3, true},
		{"Div", Div, 7, -2, -3, true},
		{"Div", Div, -7, -2, 3, true},
		{"Div", Div, 7, 0, 0, false},
		{"Div", Div, 0, 0, 0, false},
		{"Div", Div, least, -1, 0, false},
		{"Div", Div, least, 1, least, true},
		{"Div", Div, greatest, -1, -greatest, true},
		{"Mod", Mod, 7, 2, 1, true},
		{"Mod", Mod, -7, 2, -1, true},
		{"Mod", Mod, 7, -2, 1, true},
		{"Mod", Mod, -7, -2, -1, true},
		{"Mod", Mod, 7, 0, 0, false},
		{"Mod", Mod, least, 0, 0, false},
		{"Mod", Mod, least, -1, 0, true},
		{"Mod", Mod, least, greatest, -1, true},
	} {
		if n, ok := c.call(c.a, c.b); n != c.n || ok != c.ok {
			t.Errorf("%s(%d, %d): %d, %v; want %d, %v", c.name, c.a, c.b, n, ok, c.n, c.ok)
		}
	}
	if n, ok := Neg(least); n != 0 || ok {
		t.Errorf("Neg of the least: %d, %v", n, ok)
	}
	if n, ok := Neg(greatest); n != -greatest || !ok {
		t.Errorf("Neg of the greatest: %d, %v", n, ok)
	}
	if n, ok := Neg(0); n != 0 || !ok {
		t.Errorf("Neg(0): %d, %v", n, ok)
	}
}

// P1.2
func TestZigAndZag(t *testing.T) {
	for _, c := range []struct {
		n int64
		u uint64
	}{
		{0, 0}, {-1, 1}, {1, 2}, {-2, 3}, {2, 4}, {-3, 5},
		{math.MaxInt64, math.MaxUint64 - 1}, {math.MinInt64, math.MaxUint64},
	} {
		if u := Zig(c.n); u != c.u {
			t.Errorf("Zig(%d): %d, want %d", c.n, u, c.u)
		}
		if n := Zag(c.u); n != c.n {
			t.Errorf("Zag(%d): %d, want %d", c.u, n, c.n)
		}
	}
	for _, n := range numbers() {
		w := new(big.Int).Mul(big.NewInt(n), big.NewInt(2))
		if n < 0 {
			w.Neg(w).Sub(w, big.NewInt(1))
		}
		if u := Zig(n); !w.IsUint64() || u != w.Uint64() {
			t.Fatalf("Zig(%d): %d, want %s", n, u, w)
		}
	}
}

// P1.2
func TestFlipAndUnflip(t *testing.T) {
	for _, c := range []struct {
		n int64
		u uint64
	}{
		{0, 1 << 63}, {-1, 1<<63 - 1}, {1, 1<<63 + 1},
		{math.MinInt64, 0}, {math.MaxInt64, math.MaxUint64},
	} {
		if u := Flip(c.n); u != c.u {
			t.Errorf("Flip(%d): %d, want %d", c.n, u, c.u)
		}
		if n := Unflip(c.u); n != c.n {
			t.Errorf("Unflip(%d): %d, want %d", c.u, n, c.n)
		}
	}
	for _, a := range numbers() {
		for _, b := range numbers() {
			if (a < b) != (Flip(a) < Flip(b)) {
				t.Fatalf("Flip turns the order of %d and %d", a, b)
			}
			if u, v := uint64(a), uint64(b); (u < v) != (Unflip(u) < Unflip(v)) {
				t.Fatalf("Unflip turns the order of %d and %d", u, v)
			}
		}
	}
}

// P1.3
func TestPut(t *testing.T) {
	const u = 0x0102030405060708
	whole := []byte{1, 2, 3, 4, 5, 6, 7, 8}
	for size := 0; size <= 8; size++ {
		if got := Put(u, size); !bytes.Equal(got, whole[8-size:]) {
			t.Errorf("Put(%#x, %d): %v", uint64(u), size, got)
		}
	}
	if got := Put(0x0102, 3); !bytes.Equal(got, []byte{0, 1, 2}) {
		t.Errorf("Put(0x0102, 3): %v", got)
	}
	if got := Put(math.MaxUint64, 8); !bytes.Equal(got, bytes.Repeat([]byte{255}, 8)) {
		t.Errorf("Put of the greatest: %v", got)
	}
	for _, size := range []int{-1, -8, 9, 64, math.MinInt, math.MaxInt} {
		if got := Put(u, size); len(got) != 0 {
			t.Errorf("Put(%#x, %d): %v, want nothing", uint64(u), size, got)
		}
	}
}

// P1.3
func TestOf(t *testing.T) {
	for _, c := range []struct {
		b []byte
		u uint64
	}{
		{nil, 0},
		{[]byte{}, 0},
		{[]byte{0}, 0},
		{[]byte{200}, 200},
		{[]byte{1, 2}, 0x0102},
		{[]byte{1, 2, 3, 4, 5, 6, 7}, 0x01020304050607},
		{[]byte{1, 2, 3, 4, 5, 6, 7, 8}, 0x0102030405060708},
		{[]byte{9, 1, 2, 3, 4, 5, 6, 7, 8}, 0x0102030405060708},
		{[]byte{255, 255, 255, 0, 0, 0, 0, 0, 0, 0, 1}, 1},
		{bytes.Repeat([]byte{255}, 8), math.MaxUint64},
		{bytes.Repeat([]byte{255}, 1000), math.MaxUint64},
	} {
		if u := Of(c.b); u != c.u {
			t.Errorf("Of(%v): %#x, want %#x", c.b, u, c.u)
		}
	}
}

// P1.3, with the rule P2: nothing behind the length is read, nothing given is
// changed, no two answers share memory.
func TestBytesAreNobodyElses(t *testing.T) {
	b := []byte{1, 2, 3, 4, 5, 6, 7, 8, 9, 10}
	if u := Of(b[1:3]); u != 0x0203 {
		t.Errorf("Of a piece: %#x", u)
	}
	if u := Of(b[3:3]); u != 0 {
		t.Errorf("Of an empty piece: %#x", u)
	}
	if Of(b); !bytes.Equal(b, []byte{1, 2, 3, 4, 5, 6, 7, 8, 9, 10}) {
		t.Errorf("Of changed what it was given: %v", b)
	}
	first, second := Put(7, 2), Put(7, 2)
	first[1] = 99
	if !bytes.Equal(second, []byte{0, 7}) || !bytes.Equal(Put(7, 2), []byte{0, 7}) {
		t.Error("two answers of Put share memory")
	}
}

// P1.4
func TestFits(t *testing.T) {
	for bits := 1; bits <= 64; bits++ {
		half := new(big.Int).Lsh(big.NewInt(1), uint(bits-1))
		least := new(big.Int).Neg(half)
		for _, n := range numbers() {
			b := big.NewInt(n)
			want := b.Cmp(least) >= 0 && b.Cmp(half) < 0
			if got := Fits(n, bits); got != want {
				t.Fatalf("Fits(%d, %d): %v", n, bits, got)
			}
		}
	}
	for _, c := range []struct {
		n    int64
		bits int
		want bool
	}{
		{0, 1, true}, {-1, 1, true}, {1, 1, false}, {-2, 1, false},
		{127, 8, true}, {128, 8, false}, {-128, 8, true}, {-129, 8, false},
		{math.MaxInt64, 63, false}, {math.MinInt64, 63, false},
		{math.MaxInt64, 64, true}, {math.MinInt64, 64, true},
	} {
		if got := Fits(c.n, c.bits); got != c.want {
			t.Errorf("Fits(%d, %d): %v", c.n, c.bits, got)
		}
	}
	for _, bits := range []int{0, -1, -64, 65, 128, math.MinInt, math.MaxInt} {
		for _, n := range []int64{0, 1, -1, math.MinInt64, math.MaxInt64} {
			if Fits(n, bits) {
				t.Errorf("Fits(%d, %d)", n, bits)
			}
		}
	}
}

// P1.5
func TestThereAndBack(t *testing.T) {
	for _, n := range numbers() {
		if got := Zag(Zig(n)); got != n {
			t.Fatalf("Zag of Zig(%d): %d", n, got)
		}
		if got := Unflip(Flip(n)); got != n {
			t.Fatalf("Unflip of Flip(%d): %d", n, got)
		}
	}
	for _, u := range unsigned() {
		if got := Of(Put(u, 8)); got != u {
			t.Fatalf("Of of Put(%d, 8): %d", u, got)
		}
		if got := Zig(Zag(u)); got != u {
			t.Fatalf("Zig of Zag(%d): %d", u, got)
		}
		if got := Flip(Unflip(u)); got != u {
			t.Fatalf("Flip of Unflip(%d): %d", u, got)
		}
		for size := range 8 {
			if got := Of(Put(u, size)); got != u&(1<<(8*size)-1) {
				t.Fatalf("Of of Put(%d, %d): %d", u, size, got)
			}
		}
	}
}
