package meta

import (
	"bytes"
	"fmt"
	"math"
	"math/rand"
	"reflect"
	"slices"
	"strings"
	"testing"

	"plenum/api"
)

// full answers a command with every field set, each to something else.
func full() api.Command {
	return api.Command{
		Client: 300, Seq: 7, Kind: api.CmdPrepare, Txn: 5, Ts: 16384, Flag: true,
		Lock:   api.Lock{Txn: 6, Level: api.Part, Mode: api.X, Lo: []byte("lo"), Hi: []byte("lock")},
		Lo:     []byte("a"),
		Hi:     []byte("z\x00"),
		Txns:   []uint64{9, 0, 127, 128, math.MaxUint64},
		Writes: []api.Write{{Key: []byte("k"), Dead: true, Val: []byte("v")}, {Key: []byte("key"), Val: []byte("\xff\xfe")}, {}},
		Keys:   [][]byte{[]byte("one"), {}, []byte("three")},
		Table: api.Table{
			Id: -3, Name: "name",
			Cols: []api.Col{{Name: "c", Kind: api.Text, NotNull: true}, {Name: "", Kind: -70}, {Name: "last", Kind: api.Int}},
			Key:  2, Indexes: []int{4, -1, 70},
		},
	}
}

// byDivision answers a number as chapter 3 says it.
func byDivision(n uint64) []byte {
	b := []byte{byte(n % 128)}
	for n /= 128; n > 0; n /= 128 {
		b = append([]byte{byte(n%128 + 128)}, b...)
	}
	return b
}

// asWords writes a command as the words of chapters 1, 3 and 15 say it.
type asWords struct{ b []byte }

func (w *asWords) n(l ...uint64) {
	for _, n := range l {
		w.b = append(w.b, byDivision(n)...)
	}
}

func (w *asWords) i(l ...int64) {
	for _, n := range l {
		if n < 0 {
			w.n(2*uint64(-(n+1)) + 1)
		} else {
			w.n(2 * uint64(n))
		}
	}
}

func (w *asWords) flag(is bool) {
	w.n(map[bool]uint64{true: 1}[is])
}

func (w *asWords) text(l ...string) {
	for _, s := range l {
		w.n(uint64(len(s)))
		w.b = append(w.b, s...)
	}
}

// bytesOf answers a command's bytes by the words.
func bytesOf(c api.Command) []byte {
	w := &asWords{}
	w.n(c.Client, c.Seq)
	w.i(int64(c.Kind))
	w.n(c.Txn, c.Ts)
	w.flag(c.Flag)
	w.n(c.Lock.Txn)
	w.i(int64(c.Lock.Level), int64(c.Lock.Mode))
	w.text(string(c.Lock.Lo), string(c.Lock.Hi), string(c.Lo), string(c.Hi))
	w.n(uint64(len(c.Txns)))
	w.n(c.Txns...)
	w.n(uint64(len(c.Writes)))
	for _, x := range c.Writes {
		w.text(string(x.Key))
		w.flag(x.Dead)
		w.text(string(x.Val))
	}
	w.n(uint64(len(c.Keys)))
	for _, x := range c.Keys {
		w.text(string(x))
	}
	w.i(c.Table.Id)
	w.text(c.Table.Name)
	w.n(uint64(len(c.Table.Cols)))
	for _, x := range c.Table.Cols {
		w.text(x.Name)
		w.i(int64(x.Kind))
		w.flag(x.NotNull)
	}
	w.i(int64(c.Table.Key))
	w.n(uint64(len(c.Table.Indexes)))
	for _, x := range c.Table.Indexes {
		w.i(int64(x))
	}
	return w.b
}

// comesBack holds a command's bytes to the words, and what they are read as to
// the command.
func comesBack(t *testing.T, what string, c api.Command) {
	t.Helper()
	b := PutCommand(c)
	if want := bytesOf(c); !bytes.Equal(b, want) {
		t.Fatalf("%s: %x, want %x", what, b, want)
	}
	got, e := OfCommand(b)
	if e != api.OK || !alike(got, c) {
		t.Fatalf("%s comes back as %+v, %d", what, got, e)
	}
}

// isNone holds bytes to be no command.
func isNone(t *testing.T, what string, b []byte) {
	t.Helper()
	if c, e := OfCommand(b); e != api.ErrRow || !alike(c, api.Command{}) {
		t.Errorf("%s: %+v, %d; want nothing, ErrRow", what, c, e)
	}
}

// parts answers all parts of a thing, however deep, each as what it is called
// and where it stands.
func parts(name string, v reflect.Value, tell func(name string, v reflect.Value)) {
	switch v.Kind() {
	case reflect.Struct:
		for i := range v.NumField() {
			parts(name+"."+v.Type().Field(i).Name, v.Field(i), tell)
		}
	case reflect.Slice:
		tell(name, v)
		for i := range v.Len() {
			parts(fmt.Sprintf("%s[%d]", name, i), v.Index(i), tell)
		}
	default:
		tell(name, v)
	}
}

// P15.2: known bytes.
func TestPutKnownCommands(t *testing.T) {
	for _, c := range []struct {
		what string
		c    api.Command
		want string
	}{
		{"nothing", api.Command{}, "0000" + "00" + "0000" + "00" + "0000000000" + "0000" + "000000" + "0000000000"},
		{"a begin", api.Command{Client: 300, Seq: 1, Kind: api.CmdBegin}, "822c01" + "02" + "0000" + "00" + "0000000000" + "0000" + "000000" + "0000000000"},
		{"a lock", api.Command{Kind: api.CmdLock, Txn: 2, Lock: api.Lock{Txn: 3, Level: 1, Mode: 4, Lo: []byte("a"), Hi: []byte("bc")}},
			"0000" + "08" + "0200" + "00" + "0302080161026263" + "0000" + "000000" + "0000000000"},
		{"lists", api.Command{Flag: true, Lo: []byte("l"), Hi: []byte("h"), Txns: []uint64{1, 128}, Writes: []api.Write{{Key: []byte("k"), Dead: true}}, Keys: [][]byte{nil, []byte("k")}},
			"0000" + "00" + "0000" + "01" + "0000000000" + "016c0168" + "02018100" + "01" + "016b0100" + "0200016b" + "0000000000"},
		{"a table", api.Command{Table: api.Table{Id: 5, Name: "t", Cols: []api.Col{{Name: "c", Kind: 2, NotNull: true}}, Key: -1, Indexes: []int{0, 1}}},
			"0000" + "00" + "0000" + "00" + "0000000000" + "0000" + "000000" + "0a0174" + "01" + "01630401" + "01" + "020002"},
	} {
		if got := fmt.Sprintf("%x", PutCommand(c.c)); got != c.want {
			t.Errorf("%s: %s, want %s", c.what, got, c.want)
		}
		comesBack(t, c.what, c.c)
	}
}

// P15.2: commands of all Kinds, with every field set and with none.
func TestCommandsComeBack(t *testing.T) {
	comesBack(t, "nothing", api.Command{})
	comesBack(t, "every field", full())
	for _, c := range several() {
		comesBack(t, "a command", c)
	}
	for _, kind := range append(noKinds(), 1, 2, 3, 4, 5, 6, 7) {
		c := full()
		c.Kind = kind
		comesBack(t, "a Kind", c)
	}
	empty := api.Command{Lo: []byte{}, Hi: []byte{}, Txns: []uint64{}, Writes: []api.Write{}, Keys: [][]byte{}}
	empty.Table.Cols, empty.Table.Indexes, empty.Lock.Lo, empty.Lock.Hi = []api.Col{}, []int{}, []byte{}, []byte{}
	if !bytes.Equal(PutCommand(empty), PutCommand(api.Command{})) {
		t.Error("empty lists are put otherwise than none")
	}
}

// P15.2: every part of a command comes back, at each edge of its numbers.
func TestEachPartComesBack(t *testing.T) {
	numbers := []uint64{0, 1, 2, 63, 64, 127, 128, 8191, 8192, 16383, 16384, 1<<31 - 1, 1 << 31, 1<<32 - 1, 1 << 32, 1<<63 - 1, 1 << 63, math.MaxUint64 - 1, math.MaxUint64}
	count := 0
	try := func(c api.Command, what string) {
		count++
		comesBack(t, what, c)
	}
	c := full()
	parts("", reflect.ValueOf(&c).Elem(), func(name string, v reflect.Value) {
		old := reflect.New(v.Type()).Elem()
		old.Set(v)
		switch v.Kind() {
		case reflect.Bool:
			v.SetBool(!v.Bool())
			try(c, name)
		case reflect.Uint64:
			for _, n := range numbers {
				v.SetUint(n)
				try(c, fmt.Sprint(name, n))
			}
		case reflect.Int, reflect.Int64:
			for _, n := range numbers {
				v.SetInt(int64(n))
				try(c, fmt.Sprint(name, int64(n)))
			}
		case reflect.String:
			for _, s := range []string{"", "\x00", "another", "\xff\xfe"} {
				v.SetString(s)
				try(c, name+s)
			}
		case reflect.Slice:
			v.Set(old.Slice(0, max(old.Len()-1, 0)))
			try(c, name+" cut")
			v.Set(reflect.Append(old.Slice3(0, old.Len(), old.Len()), reflect.Zero(v.Type().Elem())))
			try(c, name+" longer")
			v.SetZero()
			try(c, name+" none")
		}
		v.Set(old)
	})
	if !alike(c, full()) || count < 300 {
		t.Errorf("%d commands only, or the last one isn't what it was", count)
	}
}

// P15.2: each byte string that is a beginning of a command's is none, nor is one
// with a byte more.
func TestBeginningsAndMore(t *testing.T) {
	isNone(t, "no bytes", nil)
	isNone(t, "empty bytes", []byte{})
	for _, c := range append(several(), full()) {
		b := PutCommand(c)
		for cut := range b {
			isNone(t, fmt.Sprintf("the first %d", cut), b[:cut])
		}
		for _, more := range []byte{0, 1, 127, 128, 255} {
			isNone(t, "a byte more", append(bytes.Clone(b), more))
			isNone(t, "a byte ahead", append([]byte{128}, b...))
		}
		isNone(t, "twice", append(bytes.Clone(b), b...))
	}
}

// P2: what stands behind the length isn't read.
func TestBytesBehindTheLength(t *testing.T) {
	b := PutCommand(full())
	room := append(bytes.Clone(b), b...)
	if c, e := OfCommand(room[:len(b)]); e != api.OK || !alike(c, full()) {
		t.Errorf("%+v, %d", c, e)
	}
}

// P15.2: there is one way to write a command: bytes that are changed are none,
// or those of another command.
func TestOneWay(t *testing.T) {
	whole := PutCommand(full())
	none, other := 0, 0
	try := func(b []byte) {
		c, e := OfCommand(b)
		switch {
		case e == api.OK && bytes.Equal(PutCommand(c), b):
			other++
		case e == api.ErrRow && alike(c, api.Command{}):
			none++
		default:
			t.Fatalf("%x: %+v, %d", b, c, e)
		}
	}
	for at := range whole {
		for x := range 256 {
			b := bytes.Clone(whole)
			b[at] = byte(x)
			try(b)
		}
		try(slices.Delete(bytes.Clone(whole), at, at+1))
		try(slices.Insert(bytes.Clone(whole), at, 0))
		try(slices.Insert(bytes.Clone(whole), at, 128))
	}
	r := rand.New(rand.NewSource(1))
	for range 20000 {
		b := make([]byte, r.Intn(60))
		for i := range b {
			if r.Intn(3) == 0 {
				b[i] = byte(r.Intn(4))
			}
			if r.Intn(30) == 0 {
				b[i] = byte(r.Intn(256))
			}
		}
		try(b)
	}
	if none < 1000 || other < 1000 {
		t.Errorf("%d are none, %d another command's", none, other)
	}
}

// P15.2: a flag is 0 or 1, and is written so.
func TestFlags(t *testing.T) {
	flags := map[string]func(c *api.Command) *bool{
		"Flag":    func(c *api.Command) *bool { return &c.Flag },
		"Dead":    func(c *api.Command) *bool { return &c.Writes[0].Dead },
		"NotNull": func(c *api.Command) *bool { return &c.Table.Cols[0].NotNull },
	}
	for what, of := range flags {
		yes, no := full(), full()
		*of(&yes), *of(&no) = true, false
		a, b := PutCommand(yes), PutCommand(no)
		at := -1
		for i := range a {
			if a[i] != b[i] {
				at = i
			}
		}
		if len(a) != len(b) || at < 0 || a[at] != 1 || b[at] != 0 {
			t.Fatalf("%s: %x and %x", what, a, b)
		}
		for _, x := range []byte{2, 3, 64, 127, 128, 129, 255} {
			a[at] = x
			isNone(t, fmt.Sprintf("%s of %d", what, x), a)
		}
		a[at] = 128
		isNone(t, what+" in two bytes", slices.Insert(bytes.Clone(a), at+1, 1))
	}
}

// P15.2: texts of 65,536 bytes, and of one more, at each place of a text.
func TestLongTexts(t *testing.T) {
	put := map[string]func(c *api.Command, b []byte){
		"Lock.Lo":    func(c *api.Command, b []byte) { c.Lock.Lo = b },
		"Lock.Hi":    func(c *api.Command, b []byte) { c.Lock.Hi = b },
		"Lo":         func(c *api.Command, b []byte) { c.Lo = b },
		"Hi":         func(c *api.Command, b []byte) { c.Hi = b },
		"Key":        func(c *api.Command, b []byte) { c.Writes[1].Key = b },
		"Val":        func(c *api.Command, b []byte) { c.Writes[2].Val = b },
		"Keys":       func(c *api.Command, b []byte) { c.Keys[2] = b },
		"Name":       func(c *api.Command, b []byte) { c.Table.Name = string(b) },
		"col's Name": func(c *api.Command, b []byte) { c.Table.Cols[1].Name = string(b) },
	}
	for what, f := range put {
		for _, size := range []int{0, 1, 127, 128, 1000, 1001, 16384, 65535, 65536, 65537, 65538, 200000} {
			c := full()
			f(&c, []byte(strings.Repeat("x", size)))
			if size <= 65536 {
				comesBack(t, what, c)
				continue
			}
			b := PutCommand(c)
			if !bytes.Equal(b, bytesOf(c)) {
				t.Errorf("%s of %d bytes is put otherwise", what, size)
			}
			isNone(t, what+" too long", b)
		}
	}
}

// P15.2: lists of 1000, and of one more, at each place of a list.
func TestLongLists(t *testing.T) {
	put := map[string]func(c *api.Command, n int){
		"Txns":    func(c *api.Command, n int) { c.Txns = make([]uint64, n) },
		"Writes":  func(c *api.Command, n int) { c.Writes = make([]api.Write, n) },
		"Keys":    func(c *api.Command, n int) { c.Keys = make([][]byte, n) },
		"Cols":    func(c *api.Command, n int) { c.Table.Cols = make([]api.Col, n) },
		"Indexes": func(c *api.Command, n int) { c.Table.Indexes = make([]int, n) },
	}
	for what, f := range put {
		for _, n := range []int{0, 1, 2, 12, 13, 127, 128, 999, 1000, 1001, 1002, 20000} {
			c := full()
			f(&c, n)
			if n <= 1000 {
				comesBack(t, what, c)
				continue
			}
			b := PutCommand(c)
			if !bytes.Equal(b, bytesOf(c)) {
				t.Errorf("%s of %d parts is put otherwise", what, n)
			}
			isNone(t, what+" too long", b)
		}
	}
}

// P15.2: lengths above all that is there.
func TestLengthsAboveWhatIsThere(t *testing.T) {
	ahead := map[string]int{"Lock.Lo": 9, "Lock.Hi": 10, "Lo": 11, "Hi": 12, "Txns": 13, "Writes": 14, "Keys": 15, "Name": 17, "Cols": 18, "Indexes": 20}
	none := PutCommand(api.Command{})
	if len(none) != 21 {
		t.Fatalf("nothing has %d bytes", len(none))
	}
	for what, at := range ahead {
		for _, n := range []uint64{21, 22, 127, 128, 999, 1000, 1001, 65535, 65536, 65537, 1 << 31, 1 << 32, 1 << 63, math.MaxUint64} {
			b := slices.Concat(none[:at], byDivision(n), none[at+1:])
			isNone(t, fmt.Sprintf("%s of %d", what, n), b)
			isNone(t, fmt.Sprintf("%s of %d", what, n), b[:len(b)-20+at])
		}
	}
}

// P15.2: numbers of more than 64 bits, or in more bytes than they need.
func TestNumbersThatAreNone(t *testing.T) {
	none := PutCommand(api.Command{})
	most := byDivision(math.MaxUint64)
	more := append([]byte{0x83}, most[1:]...)
	for at := range none {
		for _, n := range [][]byte{{0x80, 0}, {0x80, 1}, {0x80, 0x80, 1}, more, slices.Insert(bytes.Clone(most), 0, 0x80), {0xff}} {
			isNone(t, fmt.Sprintf("%x at %d", n, at), slices.Concat(none[:at], n, none[at+1:]))
		}
	}
}

// P15.2, P3: drawn commands come back, and the same bytes are put again.
func TestDrawnCommandsComeBack(t *testing.T) {
	r := rand.New(rand.NewSource(2))
	for range 3000 {
		var c api.Command
		fill(r, reflect.ValueOf(&c).Elem())
		comesBack(t, "a drawn one", c)
		if !bytes.Equal(PutCommand(c), PutCommand(c)) {
			t.Fatal("not the same bytes twice")
		}
	}
}

// fill draws all parts of a thing.
func fill(r *rand.Rand, v reflect.Value) {
	switch v.Kind() {
	case reflect.Struct:
		for i := range v.NumField() {
			fill(r, v.Field(i))
		}
	case reflect.Slice:
		v.Set(reflect.MakeSlice(v.Type(), r.Intn(5), 5))
		for i := range v.Len() {
			fill(r, v.Index(i))
		}
	case reflect.String:
		v.SetString(strings.Repeat(string(rune(r.Intn(300))), r.Intn(4)))
	case reflect.Bool:
		v.SetBool(r.Intn(2) == 0)
	case reflect.Uint8, reflect.Uint64:
		v.SetUint(r.Uint64() >> r.Intn(64))
	default:
		v.SetInt(int64(r.Uint64()) >> r.Intn(64))
	}
}
