package frame

import (
	"bytes"
	"encoding/binary"
	"hash/crc32"
	"math"
	"math/rand"
	"testing"

	"plenum/api"
)

// mixed answers the same size bytes for the same seed.
func mixed(seed int64, size int) []byte {
	b := make([]byte, size)
	rand.New(rand.NewSource(seed)).Read(b)
	return b
}

// byWords answers a frame as the document's words say it, by the library; also
// of lengths that no frame has, and of lengths that aren't the text's own.
func byWords(length uint32, text []byte) []byte {
	b := binary.BigEndian.AppendUint32(nil, length)
	whole := append(bytes.Clone(b), text...)
	b = binary.BigEndian.AppendUint32(b, crc32.Checksum(whole, crc32.MakeTable(crc32.Castagnoli)))
	return append(b, text...)
}

// texts are what tests put into frames one behind the other: empty ones, frames
// themselves and what looks like a frame's beginning among them.
func texts() [][]byte {
	return [][]byte{
		[]byte("abc"), nil, nil, {0}, Put([]byte("a frame")), {0, 0, 0, 1}, make([]byte, 8),
		mixed(1, 40), {}, bytes.Repeat([]byte{0xff}, 9), []byte("z"),
	}
}

// joined answers the texts' frames one behind the other.
func joined(l [][]byte) []byte {
	var b []byte
	for _, text := range l {
		b = append(b, Put(text)...)
	}
	return b
}

// same answers whether the lists hold the same texts.
func same(a, b [][]byte) bool {
	if len(a) != len(b) {
		return false
	}
	for i := range a {
		if !bytes.Equal(a[i], b[i]) {
			return false
		}
	}
	return true
}

// noFrame holds Of and All to there being no frame at b's beginning.
func noFrame(t *testing.T, what string, b []byte) {
	t.Helper()
	text, size, e := Of(b)
	if len(text) != 0 || size != 0 || e != api.ErrFrame {
		t.Errorf("Of %s: %d bytes of text, %d, %v; want none, 0, ErrFrame", what, len(text), size, e)
	}
	l, size := All(b)
	if len(l) != 0 || size != 0 {
		t.Errorf("All of %s: %d texts, %d; want none, 0", what, len(l), size)
	}
}

// P5.1: frames whose bytes are known.
func TestPutKnownFrames(t *testing.T) {
	for _, c := range []struct {
		text, want []byte
	}{
		{nil, []byte{0, 0, 0, 0, 0x48, 0x67, 0x4b, 0xc7}},
		{[]byte{}, []byte{0, 0, 0, 0, 0x48, 0x67, 0x4b, 0xc7}},
		{[]byte{0}, []byte{0, 0, 0, 1, 0x56, 0xd0, 0xee, 0x42, 0}},
		{[]byte("abc"), []byte{0, 0, 0, 3, 0x8f, 0x33, 0x7f, 0x99, 'a', 'b', 'c'}},
	} {
		if got := Put(c.text); !bytes.Equal(got, c.want) {
			t.Errorf("Put(%x): %x, want %x", c.text, got, c.want)
		}
	}
}

// P5.1: every part of a frame, up to the longest text.
func TestPutAgainstTheLibrary(t *testing.T) {
	for _, size := range []int{0, 1, 2, 3, 4, 7, 8, 9, 255, 256, 257, 1000, 4096, 65535, 65536} {
		for _, text := range [][]byte{mixed(int64(size), size), make([]byte, size), bytes.Repeat([]byte{0xff}, size)} {
			if got, want := Put(text), byWords(uint32(size), text); !bytes.Equal(got, want) {
				t.Errorf("Put of %d bytes: %d bytes, not those that the words say", size, len(got))
			}
		}
	}
	for i := range 256 {
		text := []byte{byte(i)}
		if got, want := Put(text), byWords(1, text); !bytes.Equal(got, want) {
			t.Errorf("Put(%x): %x, want %x", text, got, want)
		}
	}
}

// P5.1: the frame of the longest text, and none of a longer one.
func TestPutAtTheEdge(t *testing.T) {
	b := Put(mixed(2, 65536))
	if len(b) != 65544 || !bytes.Equal(b[:4], []byte{0, 1, 0, 0}) {
		t.Errorf("Put of 65536 bytes: %d bytes", len(b))
	}
	for _, size := range []int{65537, 65538, 1 << 17, 1 << 20, 1<<20 + 3} {
		if got := Put(make([]byte, size)); len(got) != 0 {
			t.Errorf("Put of %d bytes: %d bytes, want none", size, len(got))
		}
	}
}

// P5.1
func TestSize(t *testing.T) {
	for _, c := range [][2]int{
		{-1, 0}, {-2, 0}, {-8, 0}, {-9, 0}, {-65536, 0}, {math.MinInt, 0}, {math.MinInt + 8, 0},
		{0, 8}, {1, 9}, {3, 11}, {8, 16}, {65535, 65543}, {65536, 65544},
		{65537, 0}, {65538, 0}, {1 << 20, 0}, {math.MaxInt32, 0}, {1 << 32, 0}, {1<<32 + 3, 0}, {math.MaxInt, 0}, {math.MaxInt - 7, 0},
	} {
		if got := Size(c[0]); got != c[1] {
			t.Errorf("Size(%d): %d, want %d", c[0], got, c[1])
		}
	}
}

// P5.1: Size is how many bytes Put answers.
func TestSizeOfWhatPutAnswers(t *testing.T) {
	for _, n := range []int{0, 1, 2, 3, 100, 65535, 65536, 65537, 70000} {
		if got := Size(n); got != len(Put(make([]byte, n))) {
			t.Errorf("Size(%d): %d, but Put answers %d bytes", n, got, len(Put(make([]byte, n))))
		}
	}
}

// P5.2: a frame alone, up to the longest text, and with bytes behind it.
func TestOfAFrame(t *testing.T) {
	for _, size := range []int{0, 1, 2, 3, 8, 255, 256, 65535, 65536} {
		text := mixed(int64(size), size)
		whole := byWords(uint32(size), text)
		for _, behind := range [][]byte{nil, {0}, {1, 2, 3}, whole[:7], make([]byte, 20), whole} {
			b := append(bytes.Clone(whole), behind...)
			got, n, e := Of(b)
			if !bytes.Equal(got, text) || n != 8+size || e != api.OK {
				t.Errorf("Of a frame of %d bytes with %d behind it: %d bytes of text, %d, %v", size, len(behind), len(got), n, e)
			}
		}
	}
}

// P5.2: no bytes, fewer than eight, and each beginning of a frame.
func TestOfTooFewBytes(t *testing.T) {
	noFrame(t, "nil", nil)
	noFrame(t, "no bytes", []byte{})
	for size := range 8 {
		noFrame(t, "too few noughts", make([]byte, size))
		noFrame(t, "too few ones", bytes.Repeat([]byte{0xff}, size))
	}
	for _, text := range [][]byte{nil, []byte("a"), []byte("abc"), mixed(3, 50)} {
		b := Put(text)
		for cut := range len(b) {
			noFrame(t, "a frame's beginning", b[:cut])
		}
	}
	long := Put(mixed(3, 65536))
	noFrame(t, "the longest frame but its last byte", long[:len(long)-1])
}

// P5.2: one bit turned, in the length, in the sum, in the text; what lies
// behind must not make it a frame again.
func TestOfABrokenFrame(t *testing.T) {
	for _, text := range [][]byte{nil, {0}, []byte("abc"), mixed(4, 30)} {
		for _, behind := range [][]byte{nil, Put([]byte("next")), make([]byte, 300)} {
			b := append(Put(text), behind...)
			for i := range 8 * (8 + len(text)) {
				b[i/8] ^= 1 << (i % 8)
				noFrame(t, "a frame with a bit turned", b)
				b[i/8] ^= 1 << (i % 8)
			}
		}
	}
	b := Put(mixed(4, 65536))
	for _, i := range []int{0, 1, 2, 3, 4, 7, 8, 40000, 65543} {
		b[i] ^= 0x10
		noFrame(t, "the longest frame with a bit turned", b)
		b[i] ^= 0x10
	}
}

// P5.2: lengths above what is there, with the sum of what is there.
func TestOfLengthsAboveWhatIsThere(t *testing.T) {
	for _, text := range [][]byte{nil, {0}, []byte("abc"), mixed(5, 300)} {
		for _, more := range []int{1, 2, 8, 255, 256, 60000} {
			noFrame(t, "a length above what is there", byWords(uint32(len(text)+more), text))
		}
	}
}

// P5.2: a length above 65,536 is no frame's, even where the sum fits it.
func TestOfLengthsAboveTheLimit(t *testing.T) {
	for _, size := range []int{65537, 65538, 1 << 17, 1 << 20} {
		text := mixed(6, size)
		noFrame(t, "a text that is too long", byWords(uint32(size), text))
	}
	for _, length := range []uint32{65537, 1 << 24, 1 << 31, 1<<31 - 1, math.MaxUint32, math.MaxUint32 - 7} {
		for _, text := range [][]byte{nil, []byte("abc"), mixed(6, 70000)} {
			noFrame(t, "a length above the limit", byWords(length, text))
		}
	}
}

// P5.2: a length that is lower than the text's, with the sum of all of it.
func TestOfALengthBelowTheTexts(t *testing.T) {
	text := mixed(7, 20)
	for length := range uint32(20) {
		noFrame(t, "a length below the text's", byWords(length, text))
	}
}

// P5.2: bytes that stand there whole but without a sum, and a frame that stands
// behind others but not at the beginning.
func TestOfBytesThatAreNoFrame(t *testing.T) {
	noFrame(t, "noughts", make([]byte, 100))
	noFrame(t, "ones", bytes.Repeat([]byte{0xff}, 100))
	for ahead := 1; ahead < 20; ahead++ {
		noFrame(t, "a frame behind noughts", append(make([]byte, ahead), Put([]byte("abc"))...))
	}
	b := Put([]byte("abc"))
	for i := range 4 {
		b[i], b[4+i] = b[4+i], b[i]
	}
	noFrame(t, "the sum ahead of the length", b)
	sumOfTextAlone := append([]byte{0, 0, 0, 3, 0x36, 0x4b, 0x3f, 0xb7}, "abc"...)
	noFrame(t, "a sum of the text alone", sumOfTextAlone)
}

// P5.2: the example, and bytes behind the frames that are none.
func TestAllAsFarAsTheyGo(t *testing.T) {
	for _, b := range [][]byte{nil, {}} {
		if l, size := All(b); len(l) != 0 || size != 0 {
			t.Errorf("All of nothing: %d texts, %d", len(l), size)
		}
	}
	l := texts()
	whole := joined(l)
	broken := Put([]byte("broken"))
	broken[9] ^= 1
	for _, behind := range [][]byte{nil, {0}, {1, 2, 3}, make([]byte, 8), make([]byte, 100), broken, append(bytes.Clone(broken), whole...), append([]byte{7}, whole...)} {
		got, size := All(append(bytes.Clone(whole), behind...))
		if !same(got, l) || size != len(whole) {
			t.Errorf("All with %d bytes behind: %d texts, %d; want %d, %d", len(behind), len(got), size, len(l), len(whole))
		}
	}
}

// P5.2: where one of them is broken, those ahead of it stay.
func TestAllUpToABrokenFrame(t *testing.T) {
	l := texts()
	b := joined(l)
	at := 0
	for i, text := range l {
		for _, place := range []int{0, 3, 4, 7, 7 + len(text)} {
			b[at+place] ^= 0x20
			got, size := All(b)
			if !same(got, l[:i]) || size != at {
				t.Errorf("frame %d broken at %d: %d texts, %d; want %d, %d", i, place, len(got), size, i, at)
			}
			b[at+place] ^= 0x20
		}
		at += 8 + len(text)
	}
}

// P5.2: All is Of, again and again.
func TestAllIsOfAgainAndAgain(t *testing.T) {
	b := append(joined(texts()), 9, 9)
	all, size := All(b)
	at := 0
	for i := range all {
		text, n, e := Of(b[at:])
		if e != api.OK || !bytes.Equal(text, all[i]) {
			t.Fatalf("frame %d: %x, %v; All says %x", i, text, e, all[i])
		}
		at += n
	}
	if at != size {
		t.Errorf("All has %d bytes, its frames have %d", size, at)
	}
	noFrame(t, "what All left", b[at:])
}

// P5.3: there and back, and every beginning.
func TestThereAndBack(t *testing.T) {
	l := texts()
	b := joined(l)
	for cut := range len(b) + 1 {
		i, at := 0, 0
		for i < len(l) && at+8+len(l[i]) <= cut {
			at += 8 + len(l[i])
			i++
		}
		got, size := All(b[:cut])
		if !same(got, l[:i]) || size != at {
			t.Fatalf("All of the first %d bytes: %d texts, %d; want %d, %d", cut, len(got), size, i, at)
		}
	}
}

// P5.3: long texts, and the longest.
func TestThereAndBackOfLongTexts(t *testing.T) {
	l := [][]byte{mixed(8, 65536), nil, mixed(9, 65535), mixed(10, 65536)}
	b := joined(l)
	if got, size := All(b); !same(got, l) || size != len(b) {
		t.Errorf("All: %d texts, %d; want %d, %d", len(got), size, len(l), len(b))
	}
	if got, size := All(b[:len(b)-1]); !same(got, l[:3]) || size != len(b)-65544 {
		t.Errorf("All but the last byte: %d texts, %d", len(got), size)
	}
}

// P5.3: many texts, drawn the same each time.
func TestThereAndBackOfMany(t *testing.T) {
	r := rand.New(rand.NewSource(11))
	for range 200 {
		var l [][]byte
		for range r.Intn(12) {
			l = append(l, mixed(r.Int63(), r.Intn(60)))
		}
		b := joined(l)
		if got, size := All(b); !same(got, l) || size != len(b) {
			t.Fatalf("All: %d texts, %d; want %d, %d", len(got), size, len(l), len(b))
		}
	}
}

// P5.1 and P5.2, with the rule P2: nothing given is changed, what is answered
// shares no memory with it or with another answer.
func TestNothingIsShared(t *testing.T) {
	text := []byte("text and what lies behind")
	kept := bytes.Clone(text)
	b := Put(text[:4])
	if !bytes.Equal(b, byWords(4, []byte("text"))) || !bytes.Equal(text, kept) {
		t.Fatalf("Put of a piece: %x, left %q", b, text)
	}
	b[8] = 'T'
	if _ = append(b, 1, 2, 3); !bytes.Equal(text, kept) {
		t.Errorf("a change of what Put answered changed the text: %q", text)
	}

	whole := joined([][]byte{[]byte("one"), []byte("two"), nil, []byte("three")})
	kept = bytes.Clone(whole)
	one, _, _ := Of(whole)
	again, _, _ := Of(whole)
	one[0] = 'O'
	_ = append(one, "over what lies behind"...)
	if !bytes.Equal(whole, kept) || string(again) != "one" {
		t.Errorf("a change of what Of answered changed %x or %q", whole, again)
	}

	l, _ := All(whole)
	for i := range l {
		_ = append(l[i], "over what lies behind"...)
	}
	l[0][0] = 'O'
	if !bytes.Equal(whole, kept) || !same(l, [][]byte{[]byte("One"), []byte("two"), nil, []byte("three")}) {
		t.Errorf("a change of what All answered changed %x or %q", whole, l)
	}
	whole[8], whole[19] = 'x', 'x'
	if string(l[0]) != "One" || string(l[1]) != "two" {
		t.Errorf("a change of the bytes changed what was answered: %q", l)
	}
}

// P5.2, with the rule P2: a frame whose end lies behind the list's length isn't
// there.
func TestNothingBehindTheLengthIsRead(t *testing.T) {
	whole := joined([][]byte{[]byte("one"), []byte("two")})
	for cut := range 11 {
		noFrame(t, "a piece", whole[:cut])
	}
	if l, size := All(whole[:21]); len(l) != 1 || size != 11 {
		t.Errorf("All of a piece: %d texts, %d", len(l), size)
	}
}
