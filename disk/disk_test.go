package disk

import (
	"bytes"
	"math"
	"math/rand"
	"testing"

	"plenum/api"
)

// of answers a disk of that size with synced on it synced, and rest behind it
// not synced.
func of(t *testing.T, size int, synced, rest string) *Disk {
	t.Helper()
	d := New(size)
	if e := d.Append([]byte(synced)); e != api.OK {
		t.Fatalf("Append of %q: %v", synced, e)
	}
	if e := d.Sync(); e != api.OK {
		t.Fatalf("Sync: %v", e)
	}
	if e := d.Append([]byte(rest)); e != api.OK {
		t.Fatalf("Append of %q: %v", rest, e)
	}
	return d
}

// holds holds d to what is there and how much of it is synced.
func holds(t *testing.T, what string, d *Disk, want string, synced int) {
	t.Helper()
	if got := string(d.Bytes()); got != want || d.Synced() != synced {
		t.Errorf("%s: %q, %d synced; want %q, %d", what, got, d.Synced(), want, synced)
	}
}

// is holds an error to what it should be.
func is(t *testing.T, what string, got, want api.Errno) {
	t.Helper()
	if got != want {
		t.Errorf("%s: %v, want %v", what, got, want)
	}
}

// P6.1: a new disk is empty, whatever its size, and one of no bytes can be
// used as far as nothing goes.
func TestNewIsEmpty(t *testing.T) {
	for _, size := range []int{math.MinInt, -2, -1, 0, 1, 5, 1 << 16, math.MaxInt32, math.MaxInt} {
		d := New(size)
		if d == nil {
			t.Fatalf("New(%d): nil", size)
		}
		holds(t, "new", d, "", 0)
		is(t, "Append of nothing", d.Append(nil), api.OK)
		is(t, "Append of no bytes", d.Append([]byte{}), api.OK)
		is(t, "Sync", d.Sync(), api.OK)
		is(t, "Cut(0)", d.Cut(0), api.OK)
		is(t, "Swap of nothing", d.Swap(nil), api.OK)
		is(t, "Swap of no bytes", d.Swap([]byte{}), api.OK)
		d.Crash(9, []byte("noise"))
		holds(t, "after nothing", d, "", 0)
	}
}

// P6.1 and P6.2: no byte fits on a disk of 0 or below.
func TestNoByteFits(t *testing.T) {
	for _, size := range []int{math.MinInt, -100, -2, -1, 0} {
		d := New(size)
		for _, b := range []string{"a", "ab", "a long text"} {
			is(t, "Append", d.Append([]byte(b)), api.ErrDisk)
			is(t, "Swap", d.Swap([]byte(b)), api.ErrDisk)
		}
		holds(t, "a disk of no bytes", d, "", 0)
		is(t, "Cut(1)", d.Cut(1), api.ErrRange)
		is(t, "Cut(-1)", d.Cut(-1), api.ErrRange)
	}
}

// P6.1: what just fits, one byte too much, and that nothing is written then.
func TestAppendAtTheEdge(t *testing.T) {
	for size := 1; size < 8; size++ {
		whole := []byte("abcdefgh")[:size+1]
		d := New(size)
		is(t, "Append of one too many", d.Append(whole), api.ErrDisk)
		holds(t, "after an Append that failed", d, "", 0)
		is(t, "Append that just fits", d.Append(whole[:size]), api.OK)
		holds(t, "full", d, string(whole[:size]), 0)
		is(t, "Append of one more", d.Append([]byte("x")), api.ErrDisk)
		is(t, "Append of nothing to a full disk", d.Append(nil), api.OK)
		holds(t, "full still", d, string(whole[:size]), 0)
	}
	d := of(t, 5, "ab", "c")
	is(t, "Append of one too many", d.Append([]byte("xyz")), api.ErrDisk)
	holds(t, "after an Append that failed", d, "abc", 2)
	is(t, "Append that just fits", d.Append([]byte("de")), api.OK)
	holds(t, "full", d, "abcde", 2)
}

// P6.1: one behind the other, and only Sync syncs.
func TestAppendAndSync(t *testing.T) {
	d := New(100)
	want := ""
	for i, b := range []string{"a", "", "bc", "\x00", "def", "\xff\xfe"} {
		synced := len(want)
		want += b
		is(t, "Append", d.Append([]byte(b)), api.OK)
		holds(t, "appended", d, want, synced)
		is(t, "Sync", d.Sync(), api.OK)
		holds(t, "synced", d, want, len(want))
		is(t, "Sync again", d.Sync(), api.OK)
		holds(t, "synced again", d, want, len(want))
		if i == 3 {
			is(t, "Append of too many", d.Append(make([]byte, 100)), api.ErrDisk)
			holds(t, "after an Append that failed", d, want, len(want))
		}
	}
}

// P6.1: a size beyond what anyone has takes what it is given.
func TestAGreatSize(t *testing.T) {
	d := New(math.MaxInt)
	long := bytes.Repeat([]byte("0123456789"), 20000)
	for i := range 5 {
		is(t, "Append", d.Append(long), api.OK)
		if got := d.Bytes(); len(got) != (i+1)*len(long) || !bytes.Equal(got[i*len(long):], long) {
			t.Fatalf("after %d: %d bytes", i+1, len(got))
		}
	}
	is(t, "Sync", d.Sync(), api.OK)
	if d.Synced() != 5*len(long) {
		t.Errorf("Synced: %d", d.Synced())
	}
}

// P6.2: b alone, synced, whatever was there; and nothing of it, if it is too
// long.
func TestSwap(t *testing.T) {
	for _, b := range []string{"", "x", "xyz", "12345", "123456"} {
		for _, was := range [][2]string{{"", ""}, {"ab", ""}, {"", "ab"}, {"ab", "cd"}, {"abc", "def"}} {
			d := of(t, 6, was[0], was[1])
			is(t, "Swap of one too many", d.Swap([]byte("1234567")), api.ErrDisk)
			holds(t, "after a Swap that failed", d, was[0]+was[1], len(was[0]))
			is(t, "Swap", d.Swap([]byte(b)), api.OK)
			holds(t, "swapped", d, b, len(b))
			d.Crash(0, nil)
			holds(t, "swapped, behind a crash", d, b, len(b))
			is(t, "Append of what just fits", d.Append([]byte("qrstuv")[len(b):]), api.OK)
			holds(t, "swapped and full", d, b+"qrstuv"[len(b):], len(b))
			is(t, "Append of one more", d.Append([]byte("w")), api.ErrDisk)
		}
	}
}

// P6.2: how much Swap may write hangs on the size alone, not on what is there.
func TestSwapOfAFullDisk(t *testing.T) {
	d := of(t, 4, "abcd", "")
	is(t, "Swap", d.Swap([]byte("wxyz")), api.OK)
	holds(t, "swapped", d, "wxyz", 4)
	is(t, "Swap of one too many", d.Swap([]byte("vwxyz")), api.ErrDisk)
	holds(t, "after a Swap that failed", d, "wxyz", 4)
	is(t, "Swap of nothing", d.Swap(nil), api.OK)
	holds(t, "swapped with nothing", d, "", 0)
}

// P6.2: every n, ahead of and behind a Sync.
func TestCut(t *testing.T) {
	whole := "abcdef"
	for synced := range len(whole) + 1 {
		for n := range len(whole) + 1 {
			d := of(t, 6, whole[:synced], whole[synced:])
			for _, wrong := range []int{-1, 7, 8, -7, math.MinInt, math.MaxInt, math.MinInt32, math.MaxInt32} {
				is(t, "Cut of a wrong number", d.Cut(wrong), api.ErrRange)
				holds(t, "after a Cut that failed", d, whole, synced)
			}
			is(t, "Cut", d.Cut(n), api.OK)
			holds(t, "cut", d, whole[:n], n)
			is(t, "Cut of one more", d.Cut(n+1), api.ErrRange)
			is(t, "Cut of all", d.Cut(n), api.OK)
			d.Crash(0, nil)
			holds(t, "cut, behind a crash", d, whole[:n], n)
			is(t, "Append of what just fits", d.Append([]byte("uvwxyz")[n:]), api.OK)
			holds(t, "cut and full", d, whole[:n]+"uvwxyz"[n:], n)
			is(t, "Append of one more", d.Append([]byte("!")), api.ErrDisk)
		}
	}
}

// P6.3: the chapter's example.
func TestCrashExample(t *testing.T) {
	d := New(3)
	is(t, "Append of a", d.Append([]byte("a")), api.OK)
	is(t, "Append of b", d.Append([]byte("b")), api.OK)
	is(t, "Sync", d.Sync(), api.OK)
	is(t, "Append of c", d.Append([]byte("c")), api.OK)
	d.Crash(0, nil)
	holds(t, "behind the crash", d, "ab", 2)
}

// P6.3: keep and noise, each below, at and above what was there.
func TestCrashKnown(t *testing.T) {
	for _, c := range []struct {
		keep  int
		noise string
		want  string
	}{
		{math.MinInt, "", "ab"}, {-1, "", "ab"}, {0, "", "ab"}, {1, "", "abc"}, {3, "", "abcde"}, {4, "", "abcdef"}, {5, "", "abcdef"}, {math.MaxInt, "", "abcdef"},
		{math.MinInt, "12", "ab12"}, {-1, "1", "ab1"}, {-3, "1234", "ab1234"}, {-3, "12345", "ab1234"},
		{0, "123", "ab123"}, {0, "1234", "ab1234"}, {0, "12345", "ab1234"},
		{1, "12", "abc12"}, {1, "123", "abc123"}, {1, "1234", "abc123"},
		{3, "", "abcde"}, {3, "1", "abcde1"}, {3, "12", "abcde1"},
		{4, "1", "abcdef"}, {5, "1", "abcdef"}, {math.MaxInt, "12345", "abcdef"},
	} {
		d := of(t, 100, "ab", "cdef")
		d.Crash(c.keep, []byte(c.noise))
		holds(t, "behind a crash", d, c.want, len(c.want))
	}
}

// byWords answers what a crash leaves, byte by byte as the chapter says it.
func byWords(synced, rest, noise string, keep int) string {
	out := synced
	for i := range len(rest) {
		if i < keep {
			out += rest[i : i+1]
			continue
		}
		at := i - max(keep, 0)
		if at >= len(noise) {
			break
		}
		out += noise[at : at+1]
	}
	return out
}

// P6.3 and P6.4: all of them, up to a few bytes.
func TestCrashAgainstTheWords(t *testing.T) {
	text, rest, noise := "abcd", "efgh", "12345"
	for s := range len(text) + 1 {
		for r := range len(rest) + 1 {
			for n := range len(noise) + 1 {
				for keep := -2; keep < 8; keep++ {
					d := of(t, 8, text[:s], rest[:r])
					d.Crash(keep, []byte(noise[:n]))
					want := byWords(text[:s], rest[:r], noise[:n], keep)
					holds(t, "behind a crash", d, want, len(want))
					if !bytes.HasPrefix(d.Bytes(), []byte(text[:s])) {
						t.Errorf("what was synced, %q, is lost: %q", text[:s], d.Bytes())
					}
					d.Crash(-1, []byte("other noise"))
					holds(t, "behind a second crash", d, want, len(want))
				}
			}
		}
	}
}

// P6.3: whatever is done behind a crash; what it took gives room again.
func TestBehindACrash(t *testing.T) {
	d := of(t, 6, "ab", "cdef")
	d.Crash(1, []byte("!"))
	holds(t, "behind a crash", d, "abc!", 4)
	is(t, "Append of one too many", d.Append([]byte("xyz")), api.ErrDisk)
	is(t, "Append that just fits", d.Append([]byte("xy")), api.OK)
	holds(t, "appended", d, "abc!xy", 4)
	is(t, "Cut of one too many", d.Cut(7), api.ErrRange)
	is(t, "Cut", d.Cut(5), api.OK)
	holds(t, "cut", d, "abc!x", 5)
	d.Crash(0, nil)
	holds(t, "crashed again", d, "abc!x", 5)
	is(t, "Swap", d.Swap([]byte("new")), api.OK)
	holds(t, "swapped", d, "new", 3)
	is(t, "Append", d.Append([]byte("er")), api.OK)
	is(t, "Sync", d.Sync(), api.OK)
	d.Crash(-1, []byte("noise"))
	holds(t, "synced and crashed", d, "newer", 5)
}

// P6.4: whatever was done, what was synced is there behind a crash, as it was.
func TestKept(t *testing.T) {
	r := rand.New(rand.NewSource(1))
	for range 300 {
		size := r.Intn(40)
		d := New(size)
		there, synced := "", 0
		for range 60 {
			b := make([]byte, r.Intn(12))
			r.Read(b)
			switch r.Intn(6) {
			case 0, 1:
				if d.Append(b) == api.OK {
					there += string(b)
				}
			case 2:
				is(t, "Sync", d.Sync(), api.OK)
				synced = len(there)
			case 3:
				if n := r.Intn(45) - 2; d.Cut(n) == api.OK {
					there, synced = there[:n], n
				}
			case 4:
				if r.Intn(4) == 0 && d.Swap(b) == api.OK {
					there, synced = string(b), len(b)
				}
			case 5:
				keep := r.Intn(20) - 3
				d.Crash(keep, b)
				there = byWords(there[:synced], there[synced:], string(b), keep)
				synced = len(there)
			}
			holds(t, "as it goes", d, there, synced)
			if len(there) > size {
				t.Fatalf("%d bytes on a disk of %d", len(there), size)
			}
		}
	}
}

// P6.3: a disk that nobody made, at every call, again and again.
func TestADiskThatNobodyMade(t *testing.T) {
	for _, d := range []*Disk{nil, {}} {
		for range 2 {
			holds(t, "nobody made it", d, "", 0)
			is(t, "Append of a byte", d.Append([]byte("a")), api.ErrDisk)
			is(t, "Append of nothing", d.Append(nil), api.OK)
			is(t, "Append of no bytes", d.Append([]byte{}), api.OK)
			is(t, "Sync", d.Sync(), api.ErrDisk)
			is(t, "Swap of a byte", d.Swap([]byte("a")), api.ErrDisk)
			is(t, "Swap of nothing", d.Swap(nil), api.ErrDisk)
			is(t, "Swap of no bytes", d.Swap([]byte{}), api.ErrDisk)
			is(t, "Cut(0)", d.Cut(0), api.ErrDisk)
			for _, n := range []int{-1, 1, 2, math.MinInt, math.MaxInt} {
				is(t, "Cut of more or less", d.Cut(n), api.ErrRange)
			}
			for _, keep := range []int{-1, 0, 1, math.MinInt, math.MaxInt} {
				d.Crash(keep, []byte("noise"))
				d.Crash(keep, nil)
			}
		}
	}
}

// P6.1 to P6.3, with the rule P2: nothing handed in is changed or read behind
// its length, nothing there is changed by a change of what was handed in or
// out.
func TestNothingIsShared(t *testing.T) {
	in := []byte("text and what lies behind")
	kept := bytes.Clone(in)
	d := New(100)
	is(t, "Swap", d.Swap(in[:4]), api.OK)
	is(t, "Append", d.Append(in[4:8]), api.OK)
	holds(t, "there", d, "text and", 4)
	if !bytes.Equal(in, kept) {
		t.Errorf("Append or Swap changed what was handed in: %q", in)
	}
	in[0], in[5] = 'T', 'A'
	holds(t, "a change of what was handed in", d, "text and", 4)

	out, again := d.Bytes(), d.Bytes()
	out[0], out[7] = 'X', 'X'
	_ = append(out, "over what lies behind"...)
	holds(t, "a change of what was handed out", d, "text and", 4)
	if string(again) != "text and" {
		t.Errorf("two answers share memory: %q", again)
	}
	is(t, "Append", d.Append([]byte(" more")), api.OK)
	if string(again) != "text and" {
		t.Errorf("Append changed what was handed out: %q", again)
	}

	noise := []byte("noise, and more")
	kept = bytes.Clone(noise)
	before := d.Bytes()
	d.Crash(2, noise[:5])
	holds(t, "behind a crash", d, "text anoise", 11)
	if !bytes.Equal(noise, kept) {
		t.Errorf("Crash changed the noise: %q", noise)
	}
	noise[0] = 'N'
	holds(t, "a change of the noise", d, "text anoise", 11)
	if string(before) != "text and more" {
		t.Errorf("Crash changed what was handed out: %q", before)
	}
	is(t, "Cut", d.Cut(2), api.OK)
	is(t, "Append", d.Append([]byte("y")), api.OK)
	if string(before) != "text and more" {
		t.Errorf("Cut changed what was handed out: %q", before)
	}
}

// P6.1 to P6.3, with the rule P2: what lay on the disk ahead of a Cut, a Crash
// or a Swap isn't handed out again.
func TestWhatIsGoneStaysGone(t *testing.T) {
	for _, shrink := range []func(d *Disk){
		func(d *Disk) { d.Cut(2) },
		func(d *Disk) { d.Crash(0, nil) },
		func(d *Disk) { d.Swap([]byte("ab")) },
	} {
		d := of(t, 10, "ab", "secret")
		shrink(d)
		holds(t, "shrunk", d, "ab", 2)
		out := d.Bytes()
		if more := out[:cap(out)]; bytes.Contains(more, []byte("secret")) {
			t.Errorf("what is gone is handed out behind the length: %q", more)
		}
		d.Crash(100, []byte("noise"))
		holds(t, "shrunk, behind a crash", d, "ab", 2)
		is(t, "Append", d.Append([]byte("c")), api.OK)
		d.Crash(100, nil)
		holds(t, "appended, behind a crash", d, "abc", 3)
	}
}

// P6.1, with the rule P2: two disks have nothing to do with each other.
func TestTwoDisks(t *testing.T) {
	b := []byte("same")
	one, two := New(10), New(10)
	is(t, "Swap", one.Swap(b), api.OK)
	is(t, "Swap", two.Swap(b), api.OK)
	is(t, "Append", one.Append([]byte("1")), api.OK)
	is(t, "Append", two.Append([]byte("2")), api.OK)
	one.Crash(0, []byte("!"))
	holds(t, "one", one, "same!", 5)
	holds(t, "two", two, "same2", 4)
}
