package group

import (
	"bytes"
	"math"
	"math/rand"
	"slices"
	"testing"

	"plenum/api"
)

func bytesOf(l ...string) [][]byte {
	var out [][]byte
	for _, s := range l {
		out = append(out, []byte(s))
	}
	return out
}

func sameList(a, b [][]byte) bool { return slices.EqualFunc(a, b, bytes.Equal) }

// numberBytes answers a number as chapter 3 has it, by division.
func numberBytes(n int) []byte {
	b := []byte{byte(n % 128)}
	for n /= 128; n > 0; n /= 128 {
		b = append([]byte{byte(n%128) + 128}, b...)
	}
	return b
}

// listBytes answers a list as the chapter says it: how many, and each as a text.
func listBytes(l [][]byte) []byte {
	b := numberBytes(len(l))
	for _, s := range l {
		b = append(b, numberBytes(len(s))...)
		b = append(b, s...)
	}
	return b
}

// P11.4: how many, and each as a text, there and back.
func TestLists(t *testing.T) {
	for name, l := range map[string][][]byte{
		"nil":                   nil,
		"none":                  {},
		"one":                   bytesOf("x"),
		"one that is empty":     {nil},
		"empty ones":            {nil, {}, nil},
		"two":                   bytesOf("x", ""),
		"bytes of all kinds":    {{0}, {128, 255}, {1, 0, 1}},
		"lengths of two bytes":  bytesOf(long(127), long(128), long(129)),
		"a long one":            bytesOf(long(70000)),
		"many":                  bytesOf(numbered(300)...),
		"2000":                  bytesOf(numbered(2000)...),
		"2000 that are empty":   make([][]byte, 2000),
		"what looks like lists": {PutList(nil), PutList(bytesOf("a", "b"))},
	} {
		b := PutList(l)
		if !bytes.Equal(b, listBytes(l)) {
			t.Errorf("%s: PutList: %x, want %x", name, b, listBytes(l))
		}
		if got, e := OfList(b); e != api.OK || !sameList(got, l) {
			t.Errorf("%s: OfList: %d texts, %d", name, len(got), e)
		}
		// One way only: neither a part of it nor more of it is a list.
		for _, end := range []int{0, 1, len(b) / 2, len(b) - 1} {
			if end < len(b) {
				isNone(t, name+", cut off", b[:end])
			}
		}
		isNone(t, name+", and a byte", append(slices.Clone(b), 0))
	}
	if b := PutList(bytesOf("x", "")); !bytes.Equal(b, []byte{2, 1, 'x', 0}) {
		t.Errorf("%x", b)
	}
}

func isNone(t *testing.T, what string, b []byte) {
	t.Helper()
	if l, e := OfList(b); e != api.ErrRow || len(l) > 0 {
		t.Errorf("%s: OfList: %d texts, %d; want ErrRow", what, len(l), e)
	}
}

// P11.4: ErrRow for what is no list.
func TestBytesThatAreNoList(t *testing.T) {
	isNone(t, "nothing", nil)
	isNone(t, "2001 texts", PutList(bytesOf(numbered(2001)...)))
	isNone(t, "2001 that are empty", PutList(make([][]byte, 2001)))
	isNone(t, "3000 texts", PutList(bytesOf(numbered(3000)...)))
	isNone(t, "a number in too many bytes", []byte{128, 0})
	isNone(t, "a length in too many bytes", []byte{1, 128, 0})
	isNone(t, "a number without an end", []byte{255})
	isNone(t, "the greatest number", append(slices.Repeat([]byte{255}, 9), 127))
	isNone(t, "a text that is too short", []byte{1, 2, 'x'})
	isNone(t, "a text that isn't there", []byte{2, 0})
	isNone(t, "the greatest length", append([]byte{1, 129}, append(slices.Repeat([]byte{255}, 8), 127)...))
	if b := PutList(make([][]byte, 2001)); !bytes.Equal(b, listBytes(make([][]byte, 2001))) {
		t.Errorf("PutList of 2001: %d bytes", len(b))
	}
}

// P11.4: of every short run of bytes OfList tells the list that is put so, if
// there is one.
func TestShortRunsOfBytes(t *testing.T) {
	isRight := func(b []byte) {
		l, e := OfList(b)
		if e != api.OK && (e != api.ErrRow || len(l) > 0) {
			t.Fatalf("%x: %q, %d", b, l, e)
		}
		if (e == api.OK) != isList(b) || e == api.OK && !bytes.Equal(PutList(l), b) {
			t.Fatalf("%x: %q, %d", b, l, e)
		}
	}
	for a := range 256 {
		isRight([]byte{byte(a)})
		for b := range 256 {
			isRight([]byte{byte(a), byte(b)})
			for c := range 6 {
				isRight([]byte{byte(a % 6), byte(b), byte(c)})
			}
		}
	}
	r := rand.New(rand.NewSource(1))
	for range 20000 {
		b := make([]byte, r.Intn(9))
		for i := range b {
			b[i] = byte(r.Intn(4))
		}
		isRight(b)
	}
}

// isList answers whether short bytes are a list: all numbers there are of one
// byte.
func isList(b []byte) bool {
	if len(b) == 0 || b[0] >= 128 {
		return false
	}
	n := int(b[0])
	for b = b[1:]; n > 0; n-- {
		if len(b) == 0 || b[0] >= 128 || int(b[0]) > len(b)-1 {
			return false
		}
		b = b[1+int(b[0]):]
	}
	return len(b) == 0
}

// P2: lists that are handed in aren't changed, and nothing is shared.
func TestListsShareNoMemory(t *testing.T) {
	behind := append([]byte("ab"), "hidden"...)[:2]
	l := append([][]byte{behind, []byte("c")}, []byte("hidden"))[:2]
	b := PutList(l)
	if !bytes.Equal(b, []byte{2, 2, 'a', 'b', 1, 'c'}) {
		t.Fatalf("%x", b)
	}
	if string(behind[:8]) != "abhidden" || string(l[:3][2]) != "hidden" {
		t.Errorf("what is behind the length was changed")
	}
	l[0][0], l[1] = '!', nil
	if !bytes.Equal(b, []byte{2, 2, 'a', 'b', 1, 'c'}) {
		t.Errorf("a change of the list: %x", b)
	}
	out, e := OfList(b[:6:6])
	again, _ := OfList(b)
	if e != api.OK {
		t.Fatal(e)
	}
	spoil(out[0])
	if string(out[1]) != "c" || !bytes.Equal(b, []byte{2, 2, 'a', 'b', 1, 'c'}) || string(again[0]) != "ab" {
		t.Errorf("a change of a text: %q, %x, %q", out[1], b, again[0])
	}
	spoil(b)
	if string(again[0]) != "ab" || string(again[1]) != "c" {
		t.Errorf("a change of the bytes: %q", again)
	}
	whole := append(PutList(bytesOf("x")), 7)
	if got, e := OfList(whole[:len(whole)-1]); e != api.OK || !sameList(got, bytesOf("x")) {
		t.Errorf("a byte behind the length: %q, %d", got, e)
	}
}

// spoil changes all bytes, up to the capacity.
func spoil(b []byte) {
	b = b[:cap(b)]
	for i := range b {
		b[i] = '!'
	}
}

func TestNumberBytes(t *testing.T) {
	if !bytes.Equal(numberBytes(300), []byte{0x82, 0x2c}) || !bytes.Equal(numberBytes(0), []byte{0}) || len(numberBytes(math.MaxInt)) != 9 {
		t.Errorf("the numbers of this test aren't chapter 3's")
	}
}
