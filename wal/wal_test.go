package wal

import (
	"bytes"
	"encoding/binary"
	"hash/crc32"
	"math"
	"math/rand"
	"testing"

	"plenum/api"
	"plenum/disk"
	"plenum/frame"
)

// longest is how many bytes a record may have.
const longest = 65536

// mixed answers the same size bytes for the same seed.
func mixed(seed int64, size int) []byte {
	b := make([]byte, size)
	rand.New(rand.NewSource(seed)).Read(b)
	return b
}

// framed answers the records' frames one behind the other, as chapter 5 says
// it, by the library.
func framed(l ...[]byte) []byte {
	var b []byte
	for _, record := range l {
		whole := append(binary.BigEndian.AppendUint32(nil, uint32(len(record))), record...)
		b = append(b, whole[:4]...)
		b = binary.BigEndian.AppendUint32(b, crc32.Checksum(whole, crc32.MakeTable(crc32.Castagnoli)))
		b = append(b, record...)
	}
	return b
}

// byWords answers the records at b's beginning, and how many bytes they have:
// as long as what they say of themselves, framed again, is what stands there.
func byWords(b []byte) (l [][]byte, size int) {
	for len(b)-size >= 8 {
		n := int(binary.BigEndian.Uint32(b[size:]))
		if n > longest || n > len(b)-size-8 {
			break
		}
		record := b[size+8 : size+8+n]
		if !bytes.HasPrefix(b[size:], framed(record)) {
			break
		}
		l = append(l, record)
		size += 8 + n
	}
	return l, size
}

// several are records as tests add them: empty ones, frames themselves and what
// looks like a frame's beginning among them.
func several() [][]byte {
	return [][]byte{[]byte("abc"), nil, {}, {0}, framed([]byte("a record")), {0, 0, 0, 1}, make([]byte, 8), mixed(1, 40), []byte("z")}
}

// noRecords are bytes with no record at their beginning.
func noRecords() [][]byte {
	broken := framed([]byte("broken"))
	broken[9] ^= 1
	whole := framed([]byte("one"), nil)
	return [][]byte{
		{0}, {1, 2, 3}, make([]byte, 8), make([]byte, 100), bytes.Repeat([]byte{0xff}, 30),
		whole[:10], whole[:4], whole[1:], broken, append(bytes.Clone(broken), whole...), append([]byte{7}, whole...),
	}
}

// same answers whether the lists hold the same records.
func same(a, b [][]byte) bool {
	if len(a) != len(b) {
		return false
	}
	for i := range a {
		if !bytes.Equal(a[i], b[i]) {
			return false
		}
	}
	return true
}

// is holds an error to what it should be.
func is(t *testing.T, what string, got, want api.Errno) {
	t.Helper()
	if got != want {
		t.Errorf("%s: %v, want %v", what, got, want)
	}
}

// holds holds w's disk to what is there and how much of it is synced, and w to
// how many bytes that are.
func holds(t *testing.T, what string, w *Wal, d *disk.Disk, want []byte, synced int) {
	t.Helper()
	if got := d.Bytes(); !bytes.Equal(got, want) || d.Synced() != synced {
		t.Errorf("%s: %d bytes, %d synced; want %d, %d", what, len(got), d.Synced(), len(want), synced)
	}
	if w.Size() != len(want) {
		t.Errorf("%s: Size %d, want %d", what, w.Size(), len(want))
	}
}

// on answers a disk of that size with synced on it synced, and rest behind it
// not synced.
func on(t *testing.T, size int, synced, rest []byte) *disk.Disk {
	t.Helper()
	d := disk.New(size)
	is(t, "disk's Append", d.Append(synced), api.OK)
	is(t, "disk's Sync", d.Sync(), api.OK)
	is(t, "disk's Append", d.Append(rest), api.OK)
	return d
}

// opened opens d and holds Open to the records that it should tell, and to what
// it should leave: just these, synced.
func opened(t *testing.T, what string, d *disk.Disk, want [][]byte) *Wal {
	t.Helper()
	w, l, e := Open(d)
	if w == nil || e != api.OK || !same(l, want) {
		t.Fatalf("Open of %s: %q, %v; want %q", what, l, e, want)
	}
	left := framed(want...)
	holds(t, "Open of "+what, w, d, left, len(left))
	return w
}

// P7.1: Records are those of the words, and frame.All's.
func TestRecords(t *testing.T) {
	for _, b := range [][]byte{nil, {}} {
		if l, size := Records(b); len(l) != 0 || size != 0 {
			t.Errorf("Records of nothing: %q, %d", l, size)
		}
	}
	whole := framed(several()...)
	for _, behind := range append(noRecords(), nil) {
		b := append(bytes.Clone(whole), behind...)
		l, size := Records(b)
		if !same(l, several()) || size != len(whole) {
			t.Errorf("Records with %d bytes behind: %q, %d", len(behind), l, size)
		}
		if all, n := frame.All(b); !same(l, all) || size != n {
			t.Errorf("Records with %d bytes behind: %q, %d; frame.All %q, %d", len(behind), l, size, all, n)
		}
		if l, size = Records(behind); len(l) != 0 || size != 0 {
			t.Errorf("Records of bytes that are none: %q, %d", l, size)
		}
	}
	for cut := range len(whole) + 1 {
		l, size := Records(whole[:cut])
		if want, n := byWords(whole[:cut]); !same(l, want) || size != n {
			t.Fatalf("Records of the first %d bytes: %q, %d; want %q, %d", cut, l, size, want, n)
		}
	}
}

// P7.1: the longest record, and none of one more byte even where the sum fits.
func TestRecordsAtTheEdge(t *testing.T) {
	long := mixed(2, longest)
	b := framed([]byte("a"), long, mixed(3, longest+1), []byte("b"))
	if l, size := Records(b); !same(l, [][]byte{[]byte("a"), long}) || size != 9+8+longest {
		t.Errorf("Records: %d of them, %d bytes", len(l), size)
	}
}

// P7.1: the chapter's example, on disks of every kind of size.
func TestOpenOfAnEmptyDisk(t *testing.T) {
	for _, size := range []int{math.MinInt, -1, 0, 1, 8, 1000, math.MaxInt} {
		opened(t, "an empty disk", disk.New(size), nil)
	}
}

// P7.1: whole records, and what stands behind them, wherever the disk's sync
// is.
func TestOpen(t *testing.T) {
	for _, l := range [][][]byte{nil, {nil}, {[]byte("abc")}, several()} {
		for _, behind := range append(noRecords(), nil) {
			whole := append(framed(l...), behind...)
			for synced := range len(whole) + 1 {
				d := on(t, len(whole), whole[:synced], whole[synced:])
				w := opened(t, "records", d, l)
				d.Crash(0, nil)
				holds(t, "opened, behind a crash", w, d, framed(l...), len(framed(l...)))
			}
		}
	}
}

// P7.1: every beginning of records, and the longest ones.
func TestOpenOfARecordThatIsCut(t *testing.T) {
	whole := framed(several()...)
	for cut := range len(whole) + 1 {
		want, _ := byWords(whole[:cut])
		opened(t, "a beginning of records", on(t, 1000, whole[:cut], nil), want)
		opened(t, "a beginning of records that isn't synced", on(t, 1000, nil, whole[:cut]), want)
	}
	long := [][]byte{mixed(4, longest), mixed(5, longest)}
	whole = framed(long...)
	opened(t, "long records", on(t, len(whole), whole, nil), long)
	opened(t, "long records but the last byte", on(t, len(whole), whole[:len(whole)-1], nil), long[:1])
	opened(t, "a record that is too long", on(t, len(whole), framed(mixed(6, longest+1)), nil), nil)
}

// P7.1: every bit of the records turned: those ahead of it are told.
func TestOpenOfABrokenRecord(t *testing.T) {
	l := [][]byte{[]byte("one"), nil, []byte("three")}
	whole := framed(l...)
	for bit := range 8 * len(whole) {
		b := bytes.Clone(whole)
		b[bit/8] ^= 1 << (bit % 8)
		want, _ := byWords(whole[:bit/8])
		opened(t, "records with a bit turned", on(t, 1000, b, nil), want)
	}
}

// P7.1: disk.Cut's error, and nothing else then.
func TestOpenOfADiskThatNobodyMade(t *testing.T) {
	for _, d := range []*disk.Disk{nil, {}} {
		for range 2 {
			if w, l, e := Open(d); w != nil || len(l) != 0 || e != api.ErrDisk {
				t.Errorf("Open of a disk that nobody made: %v, %q, %v; want nil, none, ErrDisk", w, l, e)
			}
		}
	}
}

// P7.1 and P7.2: a disk that was opened tells the same again, and what was
// added since; who opened it first goes on.
func TestOpenAgain(t *testing.T) {
	d := on(t, 1000, append(framed([]byte("a")), 1, 2, 3), nil)
	first := opened(t, "a disk", d, [][]byte{[]byte("a")})
	opened(t, "a disk that was opened", d, [][]byte{[]byte("a")})
	is(t, "Add", first.Add([]byte("b"), nil), api.OK)
	l := [][]byte{[]byte("a"), []byte("b"), nil}
	second := opened(t, "a disk with added records", d, l)
	is(t, "Add", second.Add([]byte("c")), api.OK)
	is(t, "Add", first.Add([]byte("d")), api.OK)
	l = append(l, []byte("c"), []byte("d"))
	holds(t, "the first", first, d, framed(l...), len(framed(l...)))
	holds(t, "the second", second, d, framed(l...), len(framed(l...)))
	is(t, "Rewrite", second.Rewrite([]byte("e")), api.OK)
	holds(t, "the first, behind a Rewrite", first, d, framed([]byte("e")), 9)
	opened(t, "a disk that was rewritten", d, [][]byte{[]byte("e")})
}

// P7.2: none, an empty one, several at once: they stand behind each other, and
// all of them is synced.
func TestAdd(t *testing.T) {
	d := disk.New(10000)
	w := opened(t, "an empty disk", d, nil)
	var all [][]byte
	for _, l := range [][][]byte{nil, {}, {nil}, {{}}, {[]byte("a")}, {nil, nil}, several(), {[]byte("b"), nil, []byte("c")}, nil, several()} {
		is(t, "Add", w.Add(l...), api.OK)
		all = append(all, l...)
		want := framed(all...)
		holds(t, "added", w, d, want, len(want))
		d.Crash(0, nil)
		holds(t, "added, behind a crash", w, d, want, len(want))
		opened(t, "added records", d, all)
	}
}

// P7.2: records one behind the other in one Add are the same as in many.
func TestAddAtOnceOrInTurn(t *testing.T) {
	one, many := disk.New(1000), disk.New(1000)
	is(t, "Add at once", opened(t, "an empty disk", one, nil).Add(several()...), api.OK)
	w := opened(t, "an empty disk", many, nil)
	for _, record := range several() {
		is(t, "Add in turn", w.Add(record), api.OK)
	}
	if !bytes.Equal(one.Bytes(), many.Bytes()) {
		t.Errorf("at once: %x, in turn: %x", one.Bytes(), many.Bytes())
	}
}

// tooLong are lists with a record of more than 65,536 bytes, at every place.
func tooLong() [][][]byte {
	long, a := mixed(7, longest+1), []byte("a")
	return [][][]byte{{long}, {long, a}, {a, long}, {a, nil, long, a}, {long, long}, {mixed(8, longest), long}, {a, make([]byte, 1<<20)}}
}

// P7.2: the longest record, and one more byte: then nothing is written, on a
// disk with room and on one without.
func TestAddAndRewriteOfLongRecords(t *testing.T) {
	for _, size := range []int{9, 1 << 22} {
		d := on(t, size, framed([]byte("a")), nil)
		w := opened(t, "a disk", d, [][]byte{[]byte("a")})
		for _, l := range tooLong() {
			is(t, "Add of one that is too long", w.Add(l...), api.ErrWal)
			is(t, "Rewrite of one that is too long", w.Rewrite(l...), api.ErrWal)
			holds(t, "after records that are too long", w, d, framed([]byte("a")), 9)
		}
	}
	d := disk.New(1 << 22)
	w := opened(t, "an empty disk", d, nil)
	l := [][]byte{mixed(9, longest), nil, mixed(10, longest-1), mixed(11, longest)}
	is(t, "Add of the longest", w.Add(l...), api.OK)
	holds(t, "the longest added", w, d, framed(l...), len(framed(l...)))
	opened(t, "the longest", d, l)
	is(t, "Rewrite of the longest", w.Rewrite(l[3]), api.OK)
	holds(t, "the longest alone", w, d, framed(l[3]), 8+longest)
	opened(t, "the longest alone", d, l[3:])
}

// P7.2: a record that is too long leaves also what isn't synced as it is.
func TestTooLongSyncsNothing(t *testing.T) {
	d := disk.New(1000)
	w := opened(t, "an empty disk", d, nil)
	is(t, "Add", w.Add([]byte("a")), api.OK)
	is(t, "disk's Append", d.Append([]byte("rest")), api.OK)
	want := append(framed([]byte("a")), "rest"...)
	is(t, "Add of one that is too long", w.Add(mixed(12, longest+1)), api.ErrWal)
	is(t, "Rewrite of one that is too long", w.Rewrite(mixed(12, longest+1)), api.ErrWal)
	holds(t, "after one that is too long", w, d, want, 9)
	is(t, "Add of none", w.Add(), api.OK)
	holds(t, "Add of none syncs", w, d, want, len(want))
}

// P7.2: what just fits, one byte less room (then nothing is written, not even
// the first of them), and what fits then.
func TestAddAtTheDisksEdge(t *testing.T) {
	l := [][]byte{[]byte("first"), nil, []byte("a")}
	need := len(framed(l...))
	for _, was := range [][][]byte{nil, {nil}, {[]byte("was"), []byte("there")}} {
		there := framed(was...)
		for less := 1; less <= need; less++ {
			d := on(t, len(there)+need-less, there, nil)
			w := opened(t, "a disk", d, was)
			is(t, "Add that doesn't fit", w.Add(l...), api.ErrDisk)
			holds(t, "after an Add that doesn't fit", w, d, there, len(there))
			is(t, "Add of none", w.Add(), api.OK)
			d.Crash(9, nil)
			holds(t, "after a crash", w, d, there, len(there))
		}
		d := on(t, len(there)+need, there, nil)
		w := opened(t, "a disk", d, was)
		is(t, "Add that just fits", w.Add(l...), api.OK)
		full := append(there, framed(l...)...)
		holds(t, "full", w, d, full, len(full))
		is(t, "Add of an empty one to a full disk", w.Add(nil), api.ErrDisk)
		is(t, "Add of none to a full disk", w.Add(), api.OK)
		holds(t, "full still", w, d, full, len(full))
	}
}

// P7.2: none, an empty one, several: they alone are there, synced, whatever was
// there.
func TestRewrite(t *testing.T) {
	for _, l := range [][][]byte{nil, {}, {nil}, {{}}, {[]byte("a")}, several()} {
		for _, rest := range [][]byte{nil, []byte("rest"), framed([]byte("rest"))} {
			d := disk.New(1000)
			w := opened(t, "an empty disk", d, nil)
			is(t, "Add", w.Add(several()...), api.OK)
			is(t, "disk's Append", d.Append(rest), api.OK)
			is(t, "Rewrite", w.Rewrite(l...), api.OK)
			want := framed(l...)
			holds(t, "rewritten", w, d, want, len(want))
			d.Crash(0, nil)
			holds(t, "rewritten, behind a crash", w, d, want, len(want))
			is(t, "Add", w.Add([]byte("more"), nil), api.OK)
			opened(t, "what was rewritten, and more", d, append(fresh(l), []byte("more"), nil))
		}
	}
}

// fresh answers a new list of the same records.
func fresh(l [][]byte) [][]byte {
	return append([][]byte{}, l...)
}

// P7.2: how much Rewrite may write hangs on the disk's size alone; what doesn't
// fit leaves all as it was, synced or not.
func TestRewriteAtTheDisksEdge(t *testing.T) {
	l := [][]byte{[]byte("first"), nil, []byte("a")}
	need := len(framed(l...))
	there := framed([]byte("1234"), []byte("5678"))
	for size := len(there); size < need; size++ {
		d := on(t, size, there, nil)
		w := opened(t, "a disk", d, [][]byte{[]byte("1234"), []byte("5678")})
		rest := []byte("rest!!")[:size-len(there)]
		is(t, "disk's Append", d.Append(rest), api.OK)
		is(t, "Rewrite that doesn't fit", w.Rewrite(l...), api.ErrDisk)
		holds(t, "after a Rewrite that doesn't fit", w, d, append(bytes.Clone(there), rest...), len(there))
	}
	d := on(t, need, framed(several()...)[:need], nil)
	w, _, e := Open(d)
	is(t, "Open", e, api.OK)
	is(t, "Rewrite that just fits", w.Rewrite(l...), api.OK)
	holds(t, "full", w, d, framed(l...), need)
	is(t, "Rewrite of a full disk", w.Rewrite(l[1], l[2], l[0]), api.OK)
	holds(t, "full again", w, d, framed(l[1], l[2], l[0]), need)
	is(t, "Rewrite of one byte more", w.Rewrite(l[0], l[1], []byte("ab")), api.ErrDisk)
	holds(t, "full still", w, d, framed(l[1], l[2], l[0]), need)
	is(t, "Rewrite of none", w.Rewrite(), api.OK)
	holds(t, "empty", w, d, nil, 0)
}

// P7.2: a disk of no bytes takes no record, not even an empty one.
func TestADiskOfNoBytes(t *testing.T) {
	for _, size := range []int{math.MinInt, -1, 0, 7} {
		d := disk.New(size)
		w := opened(t, "a disk of no bytes", d, nil)
		is(t, "Add of none", w.Add(), api.OK)
		is(t, "Rewrite of none", w.Rewrite(), api.OK)
		is(t, "Add of an empty one", w.Add(nil), api.ErrDisk)
		is(t, "Rewrite of an empty one", w.Rewrite(nil), api.ErrDisk)
		is(t, "Add of one that is too long", w.Add(nil, mixed(13, longest+1)), api.ErrWal)
		is(t, "Rewrite of one that is too long", w.Rewrite(nil, mixed(13, longest+1)), api.ErrWal)
		holds(t, "a disk of no bytes", w, d, nil, 0)
	}
}

// P7.2: Size is how many bytes are on the disk, whoever wrote them, synced or
// not.
func TestSizeOfWhatIsOnTheDisk(t *testing.T) {
	d := disk.New(100)
	w := opened(t, "an empty disk", d, nil)
	is(t, "Add", w.Add([]byte("abc")), api.OK)
	is(t, "disk's Append", d.Append([]byte("12345")), api.OK)
	if w.Size() != 16 {
		t.Errorf("Size with bytes that aren't synced: %d, want 16", w.Size())
	}
	d.Crash(2, nil)
	if w.Size() != 13 {
		t.Errorf("Size behind a crash: %d, want 13", w.Size())
	}
	is(t, "disk's Cut", d.Cut(4), api.OK)
	if w.Size() != 4 {
		t.Errorf("Size behind a Cut: %d, want 4", w.Size())
	}
	opened(t, "a disk with nothing whole on it", d, nil)
	if w.Size() != 0 {
		t.Errorf("Size behind an Open: %d, want 0", w.Size())
	}
}

// P7.2: a wal that nobody made, at every call, again and again.
func TestAWalThatNobodyMade(t *testing.T) {
	for _, w := range []*Wal{nil, {}} {
		for range 2 {
			for _, l := range append(tooLong(), nil, [][]byte{}, [][]byte{nil}, several()) {
				is(t, "Add", w.Add(l...), api.ErrWal)
				is(t, "Rewrite", w.Rewrite(l...), api.ErrWal)
			}
			if w.Size() != 0 {
				t.Errorf("Size: %d, want 0", w.Size())
			}
		}
	}
}

// wholeIn answers how many of the records stand whole in the first size bytes of
// their frames.
func wholeIn(l [][]byte, size int) int {
	for i, record := range l {
		size -= 8 + len(record)
		if size < 0 {
			return i
		}
	}
	return len(l)
}

// P7.3: a crash without noise at every place of records that were being added.
func TestRecovery(t *testing.T) {
	for _, added := range [][][]byte{nil, {nil}, {[]byte("ab"), nil, []byte("c")}} {
		for _, adding := range [][][]byte{nil, {nil}, {nil, nil}, {[]byte("d")}, several()} {
			size := len(framed(adding...))
			for keep := -1; keep < size+2; keep++ {
				d := disk.New(1000)
				is(t, "Add", opened(t, "an empty disk", d, nil).Add(added...), api.OK)
				is(t, "disk's Append", d.Append(framed(adding...)), api.OK)
				d.Crash(keep, nil)
				want := append(fresh(added), adding[:wholeIn(adding, keep)]...)
				w := opened(t, "what a crash left", d, want)
				is(t, "Add behind a crash", w.Add([]byte("more")), api.OK)
				opened(t, "what a crash left, and more", d, append(want, []byte("more")))
			}
		}
	}
}

// P7.3: a crash with noise: what was added is there, behind it what is whole,
// and what noise broke is not told.
func TestRecoveryWithNoise(t *testing.T) {
	added := [][]byte{[]byte("ab"), nil}
	adding := several()
	size := len(framed(adding...))
	for _, noise := range [][]byte{{0x55}, mixed(14, 7), mixed(15, 300), make([]byte, 300), bytes.Repeat([]byte{0xff}, 300)} {
		for keep := -1; keep < size+2; keep++ {
			d := disk.New(1000)
			is(t, "Add", opened(t, "an empty disk", d, nil).Add(added...), api.OK)
			is(t, "disk's Append", d.Append(framed(adding...)), api.OK)
			d.Crash(keep, noise)
			want, _ := byWords(d.Bytes())
			if kept := wholeIn(adding, keep); len(want) < len(added)+kept || !same(want[:len(added)+kept], append(fresh(added), adding[:kept]...)) {
				t.Fatalf("keep %d: the disk has %q", keep, want)
			}
			opened(t, "what a crash with noise left", d, want)
		}
	}
}

// P7.3: noise that is a whole record where a record's place was is one.
func TestRecoveryWithNoiseThatIsARecord(t *testing.T) {
	d := disk.New(1000)
	is(t, "Add", opened(t, "an empty disk", d, nil).Add([]byte("ab")), api.OK)
	is(t, "disk's Append", d.Append(framed([]byte("cd"), []byte("efghi"))), api.OK)
	d.Crash(10, append(framed([]byte("xy")), 1, 2, 3))
	opened(t, "what noise left", d, [][]byte{[]byte("ab"), []byte("cd"), []byte("xy")})
}

// P7.3: whatever was added, rewritten and refused: behind any crash just what
// was added is told, and of what was being added its beginning.
func TestRecoveryOfLongRuns(t *testing.T) {
	r := rand.New(rand.NewSource(16))
	for range 200 {
		size := r.Intn(400)
		d := disk.New(size)
		w := opened(t, "an empty disk", d, nil)
		var there [][]byte
		for range 40 {
			var l [][]byte
			for range r.Intn(4) {
				l = append(l, mixed(r.Int63(), r.Intn(20)))
			}
			switch r.Intn(4) {
			case 0, 1:
				fits := len(framed(there...))+len(framed(l...)) <= size
				if e := w.Add(l...); (e == api.OK) != fits {
					t.Fatalf("Add of %d records: %v, fits: %v", len(l), e, fits)
				}
				if fits {
					there = append(there, l...)
				}
			case 2:
				if r.Intn(5) == 0 && w.Rewrite(l...) == api.OK {
					there = l
				}
			case 3:
				b := framed(l...)
				keep := r.Intn(len(b) + 3)
				if d.Append(b) == api.OK {
					there = append(fresh(there), l[:wholeIn(l, keep)]...)
				}
				d.Crash(keep, nil)
				w = opened(t, "what a crash left", d, there)
			}
			want := framed(there...)
			holds(t, "as it goes", w, d, want, len(want))
		}
	}
}

// P7.2, with the rule P2: nothing handed in is changed, nor read behind its
// length, nor does a change of it change what is there.
func TestNothingHandedInIsShared(t *testing.T) {
	text := []byte("one two and what lies behind")
	l := [][]byte{text[:3], text[4:7], []byte("behind the list")}
	kept, list := bytes.Clone(text), fresh(l)
	d := disk.New(100)
	w := opened(t, "an empty disk", d, nil)
	for _, do := range []func(...[]byte) api.Errno{w.Add, w.Rewrite} {
		is(t, "Add or Rewrite", do(l[:2]...), api.OK)
		if !bytes.Equal(text, kept) || !same(l, list) {
			t.Fatalf("what was handed in was changed: %q, %q", text, l)
		}
		text[0], text[4] = 'X', 'X'
		l[1] = nil
		want := framed([]byte("one"), []byte("two"))
		holds(t, "a change of what was handed in", w, d, want, len(want))
		copy(text, kept)
		l[1] = text[4:7]
	}
}

// P7.1, with the rule P2: what was handed out shares nothing with the disk, with
// the bytes, or with another answer.
func TestNothingHandedOutIsShared(t *testing.T) {
	want := [][]byte{[]byte("one"), []byte("two"), nil, []byte("three")}
	b := append(framed(want...), "rest"...)
	kept := bytes.Clone(b)
	d := on(t, 100, b, nil)
	w, out, _ := Open(d)
	_, again, _ := Open(d)
	records, _ := Records(b)
	for _, l := range [][][]byte{out, records} {
		for i := range l {
			_ = append(l[i], "over what lies behind"...)
		}
		l[0][0] = 'O'
		if !same(l, [][]byte{[]byte("One"), []byte("two"), nil, []byte("three")}) {
			t.Errorf("two records share memory: %q", l)
		}
	}
	holds(t, "a change of what was handed out", w, d, framed(want...), len(framed(want...)))
	if !bytes.Equal(b, kept) || !same(again, want) {
		t.Errorf("a change of what was handed out changed %q or %q", b, again)
	}
	is(t, "Rewrite", w.Rewrite([]byte("ONE"), []byte("TWO")), api.OK)
	b[8] = 'x'
	if !same(again, want) || string(records[0]) != "One" {
		t.Errorf("what was handed out changed: %q, %q", again, records)
	}
}

// P7.1, with the rule P2: Records reads nothing behind the length.
func TestRecordsReadsNothingBehindTheLength(t *testing.T) {
	b := framed([]byte("one"), []byte("two"))
	if l, size := Records(b[:15:len(b)]); !same(l, [][]byte{[]byte("one")}) || size != 11 {
		t.Errorf("Records of a piece: %q, %d", l, size)
	}
}

// P7.1 and P7.2, with the rule P2: two disks have nothing to do with each other.
func TestTwoWals(t *testing.T) {
	one, two := disk.New(100), disk.New(100)
	v, w := opened(t, "an empty disk", one, nil), opened(t, "an empty disk", two, nil)
	is(t, "Add", v.Add([]byte("1")), api.OK)
	is(t, "Add", w.Add([]byte("2"), nil), api.OK)
	is(t, "Rewrite", v.Rewrite([]byte("one")), api.OK)
	holds(t, "one", v, one, framed([]byte("one")), 11)
	holds(t, "two", w, two, framed([]byte("2"), nil), 17)
}
