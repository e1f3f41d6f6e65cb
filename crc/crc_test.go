package crc

import (
	"bytes"
	"hash/crc32"
	"math"
	"math/rand"
	"testing"
)

// castagnoli is the library's own table of CRC-32C.
var castagnoli = crc32.MakeTable(crc32.Castagnoli)

// states are the edges of what Step and More may begin with: each bit alone,
// all but each, none, all, and some mixed ones.
func states() []uint32 {
	l := []uint32{0, math.MaxUint32, 0x82f63b78, 0xe3069283, 0x01234567, 0xfedcba98, 0xaaaaaaaa, 0x55555555}
	for i := range 32 {
		l = append(l, 1<<i, ^uint32(1<<i))
	}
	return l
}

// mixed answers the same size bytes for the same seed.
func mixed(seed int64, size int) []byte {
	b := make([]byte, size)
	rand.New(rand.NewSource(seed)).Read(b)
	return b
}

// lengths are how long texts are: short ones, all edges of powers of two, and
// the longest second part that Join takes.
func lengths() []int {
	l := []int{0, 1, 2, 3, 4, 5, 7, 8, 9, 12, 100, 1000, 4095, 4096, 4097, 10000, 32768, 65535, 65536}
	for n := 16; n <= 2048; n *= 2 {
		l = append(l, n-1, n, n+1)
	}
	return l
}

// byWords answers a step as the document's words say it, on bits that stand in
// a list, the lowest first.
func byWords(c uint32, b byte) uint32 {
	var bits [32]uint32
	for i := range bits {
		bits[i] = c >> i & 1
	}
	for i := range 8 {
		bits[i] ^= uint32(b) >> i & 1
	}
	for range 8 {
		out := bits[0]
		copy(bits[:], bits[1:])
		bits[31] = 0
		for i := range bits {
			bits[i] ^= out & (0x82f63b78 >> i)
		}
	}
	var n uint32
	for i := range bits {
		n |= bits[i] << i
	}
	return n
}

// P4.1
func TestStep(t *testing.T) {
	for _, c := range []struct {
		c    uint32
		b    byte
		want uint32
	}{
		{0, 0, 0},
		// This bit goes out last, so the polynomial isn't shifted any more.
		{0, 0x80, 0x82f63b78},
		{0x80, 0, 0x82f63b78},
		{0x80, 0x80, 0},
		{0xff, 0xff, 0},
		{0x100, 0, 1},
		{0xffffff00, 0, 0x00ffffff},
		{0xffffff5a, 0x5a, 0x00ffffff},
		{0x80000000, 0, 0x00800000},
		{math.MaxUint32, 0xff, 0x00ffffff},
		{math.MaxUint32, 0x7f, 0x00ffffff ^ 0x82f63b78},
	} {
		if got := Step(c.c, c.b); got != c.want {
			t.Errorf("Step(%#x, %#x): %#x, want %#x", c.c, c.b, got, c.want)
		}
	}
	for _, c := range states() {
		for b := range 256 {
			got := Step(c, byte(b))
			if want := byWords(c, byte(b)); got != want {
				t.Fatalf("Step(%#x, %#x): %#x, want %#x", c, b, got, want)
			}
			if want := castagnoli[byte(c)^byte(b)] ^ c>>8; got != want {
				t.Fatalf("Step(%#x, %#x): %#x, the library's table says %#x", c, b, got, want)
			}
		}
	}
}

// P4.1
func TestMoreIsByteByByte(t *testing.T) {
	for _, c := range states() {
		if got := More(c, nil); got != c {
			t.Errorf("More(%#x) of nil: %#x", c, got)
		}
		if got := More(c, []byte{}); got != c {
			t.Errorf("More(%#x) of no bytes: %#x", c, got)
		}
		for size := range 40 {
			b := mixed(int64(size), size)
			want := c
			for _, x := range b {
				want = byWords(want, x)
			}
			if got := More(c, b); got != want {
				t.Fatalf("More(%#x, %x): %#x, want %#x", c, b, got, want)
			}
		}
	}
}

// P4.1: sums that are known from elsewhere (RFC 3720, B.4, among them).
func TestSumsThatAreKnown(t *testing.T) {
	up, down := make([]byte, 32), make([]byte, 32)
	for i := range 32 {
		up[i], down[i] = byte(i), byte(31-i)
	}
	for _, c := range []struct {
		b    []byte
		want uint32
	}{
		{nil, 0},
		{[]byte{}, 0},
		{[]byte("123456789"), 0xe3069283},
		{[]byte("a"), 0xc1d04330},
		{[]byte("abc"), 0x364b3fb7},
		{[]byte{0}, 0x527d5351},
		{[]byte{0xff}, 0xff000000},
		{[]byte{0xff, 0xff, 0xff, 0xff}, 0xffffffff},
		{make([]byte, 32), 0x8a9136aa},
		{bytes.Repeat([]byte{0xff}, 32), 0x62a8ab43},
		{up, 0x46dd794e},
		{down, 0x113fdb5c},
	} {
		if got := Sum(c.b); got != c.want {
			t.Errorf("Sum(%x): %#x, want %#x", c.b, got, c.want)
		}
	}
}

// P4.1
func TestSumAgainstTheLibrary(t *testing.T) {
	for _, size := range append(lengths(), 65537, 100000) {
		b := mixed(int64(size), size)
		if got, want := Sum(b), crc32.Checksum(b, castagnoli); got != want {
			t.Errorf("Sum of %d bytes: %#x, want %#x", size, got, want)
		}
	}
	for i := range 1 << 16 {
		b := []byte{byte(i >> 8), byte(i)}
		if got, want := Sum(b), crc32.Checksum(b, castagnoli); got != want {
			t.Fatalf("Sum(%x): %#x, want %#x", b, got, want)
		}
	}
}

// P4.1: a changed bit changes the Sum, and no other bit changes it alike.
func TestSumsOfTextsThatDifferInABit(t *testing.T) {
	b := mixed(1, 32)
	whole := Sum(b)
	seen := map[uint32]int{}
	for i := range 8 * len(b) {
		b[i/8] ^= 1 << (i % 8)
		got := Sum(b)
		b[i/8] ^= 1 << (i % 8)
		if got == whole {
			t.Errorf("bit %d doesn't change the Sum", i)
		}
		if other, ok := seen[got]; ok {
			t.Errorf("bits %d and %d change the Sum alike", other, i)
		}
		seen[got] = i
	}
}

// P4.1, with the rule P2: nothing given is changed, nothing behind a list's
// length is read.
func TestBytesAreReadAlone(t *testing.T) {
	b := []byte("123456789 and what lies behind")
	kept := bytes.Clone(b)
	if got := Sum(b[:9]); got != 0xe3069283 {
		t.Errorf("Sum of a piece: %#x", got)
	}
	if got := Sum(b[4:4]); got != 0 {
		t.Errorf("Sum of an empty piece: %#x", got)
	}
	if got := More(7, b[:0]); got != 7 {
		t.Errorf("More over an empty piece: %#x", got)
	}
	if More(1, b); !bytes.Equal(b, kept) {
		t.Errorf("the bytes were changed: %q", b)
	}
}

// P4.2
func TestJoinOfTheExample(t *testing.T) {
	b := []byte("123456789")
	for cut := range len(b) + 1 {
		if got := Join(Sum(b[:cut]), Sum(b[cut:]), len(b)-cut); got != 0xe3069283 {
			t.Errorf("Join at %d: %#x", cut, got)
		}
	}
}

// P4.2
func TestJoinAgainstTheJoinedText(t *testing.T) {
	for _, first := range []int{0, 1, 2, 3, 4, 5, 31, 1000, 65536, 70000} {
		a := mixed(int64(first)+1, first)
		for _, n := range lengths() {
			b := mixed(int64(n)+2, n)
			want := crc32.Checksum(append(bytes.Clone(a), b...), castagnoli)
			if got := Join(Sum(a), Sum(b), n); got != want {
				t.Errorf("Join of %d and %d bytes: %#x, want %#x", first, n, got, want)
			}
		}
	}
}

// P4.2: texts of noughts and of ones, short and empty ones among them, on
// which a wrong start or end of a Sum shows plainest.
func TestJoinOfEvenTexts(t *testing.T) {
	for _, fill := range []byte{0, 0xff} {
		for _, n := range []int{0, 1, 4, 300} {
			b := bytes.Repeat([]byte{fill}, n)
			for _, first := range []int{0, 1, 4, 300} {
				a := bytes.Repeat([]byte{^fill}, first)
				if got, want := Join(Sum(a), Sum(b), n), Sum(append(a, b...)); got != want {
					t.Errorf("Join of %d %#x and %d %#x: %#x, want %#x", first, ^fill, n, fill, got, want)
				}
			}
		}
	}
}

// P4.2: how long the second part may be.
func TestJoinAtTheEdges(t *testing.T) {
	a := []byte("the first part")
	for _, n := range []int{0, 1, 65535, 65536} {
		b := mixed(3, n)
		got := Join(Sum(a), Sum(b), n)
		if want := crc32.Checksum(append(bytes.Clone(a), b...), castagnoli); got != want || got == 0 {
			t.Errorf("Join with n %d: %#x, want %#x", n, got, want)
		}
	}
	b := mixed(3, 65537)
	for _, n := range []int{-1, -2, -65536, 65537, 65538, 1 << 20, 1 << 32, math.MinInt, math.MaxInt} {
		for _, s := range [][2]uint32{{1, 2}, {Sum(a), Sum(b)}, {0, 1}, {1, 0}, {math.MaxUint32, math.MaxUint32 - 1}} {
			if got := Join(s[0], s[1], n); got != 0 {
				t.Errorf("Join(%#x, %#x, %d): %#x, want 0", s[0], s[1], n, got)
			}
		}
	}
	for _, c := range states() {
		if got := Join(c, 0, 0); got != c {
			t.Errorf("Join(%#x, 0, 0): %#x", c, got)
		}
		if got := Join(0, c, 65536); got != c {
			t.Errorf("Join(0, %#x, 65536): %#x", c, got)
		}
	}
}

// P4.2: of three parts it is the same which two are joined first.
func TestJoinOfThreeParts(t *testing.T) {
	for _, size := range [][3]int{{0, 0, 0}, {1, 0, 2}, {3, 5, 7}, {100, 1, 1000}, {7, 4096, 300}} {
		a, b, c := mixed(4, size[0]), mixed(5, size[1]), mixed(6, size[2])
		left := Join(Join(Sum(a), Sum(b), len(b)), Sum(c), len(c))
		right := Join(Sum(a), Join(Sum(b), Sum(c), len(c)), len(b)+len(c))
		want := Sum(bytes.Join([][]byte{a, b, c}, nil))
		if left != want || right != want {
			t.Errorf("%v: %#x and %#x, want %#x", size, left, right, want)
		}
	}
}

// P4.3: every cut into two pieces, from every state.
func TestMoreInTwoPieces(t *testing.T) {
	b := mixed(7, 200)
	for _, c := range states() {
		whole := More(c, b)
		for cut := range len(b) + 1 {
			if got := More(More(c, b[:cut]), b[cut:]); got != whole {
				t.Fatalf("More from %#x, cut at %d: %#x, want %#x", c, cut, got, whole)
			}
		}
	}
}

// P4.3: pieces of every size, and empty ones between them.
func TestMoreInManyPieces(t *testing.T) {
	b := mixed(8, 300)
	want := crc32.Checksum(b, castagnoli)
	for size := 1; size <= len(b); size++ {
		c := uint32(math.MaxUint32)
		for i := 0; i < len(b); i += size {
			c = More(More(c, b[i:min(i+size, len(b))]), nil)
		}
		if ^c != want {
			t.Fatalf("pieces of %d: %#x, want %#x", size, ^c, want)
		}
	}
}
