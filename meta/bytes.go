package meta

import (
	"math"

	"plenum/api"
	"plenum/row"
)

// What a command that is read has at most: bytes of a text, parts of a list.
const (
	mostBytes = 65536
	mostParts = 1000
)

// PutCommand answers a command as bytes (P15.2).
func PutCommand(c api.Command) []byte {
	w := &row.Writer{}
	w.N(c.Client, c.Seq)
	putInt(w, c.Kind)
	w.N(c.Txn, c.Ts)
	putFlag(w, c.Flag)
	putLock(w, c.Lock)
	w.Text(c.Lo)
	w.Text(c.Hi)
	putList(w, c.Txns, putNumber)
	putList(w, c.Writes, putWrite)
	putList(w, c.Keys, putText)
	putTable(w, c.Table)
	return w.Bytes()
}

// OfCommand answers the command with just these bytes; ErrRow, if there is none
// (P15.2).
func OfCommand(b []byte) (api.Command, api.Errno) {
	r := row.Read(b)
	var c api.Command
	c.Client = readNumber(r)
	c.Seq = readNumber(r)
	c.Kind = readInt(r)
	c.Txn = readNumber(r)
	c.Ts = readNumber(r)
	c.Flag = readFlag(r)
	c.Lock = readLock(r)
	c.Lo = readText(r)
	c.Hi = readText(r)
	c.Txns = readList(r, readNumber)
	c.Writes = readList(r, readWrite)
	c.Keys = readList(r, readText)
	c.Table = readTable(r)
	if e := r.End(); e != api.OK {
		return api.Command{}, e
	}
	return c, api.OK
}

// putNumber writes a number.
func putNumber(w *row.Writer, n uint64) {
	w.N(n)
}

// readNumber reads what putNumber wrote.
func readNumber(r *row.Reader) uint64 {
	return r.N(math.MaxUint64)
}

// putInt writes a number of either sign.
func putInt(w *row.Writer, n int) {
	w.I(int64(n))
}

// readInt reads what putInt wrote.
func readInt(r *row.Reader) int {
	return int(r.I())
}

// putFlag writes 1 for what holds, else 0.
func putFlag(w *row.Writer, holds bool) {
	if holds {
		w.N(1)
		return
	}
	w.N(0)
}

// readFlag reads what putFlag wrote.
func readFlag(r *row.Reader) bool {
	return r.N(1) == 1
}

// putText writes a text.
func putText(w *row.Writer, b []byte) {
	w.Text(b)
}

// readText reads what putText wrote, if it isn't too long.
func readText(r *row.Reader) []byte {
	return r.Text(mostBytes)
}

// putList writes how many parts a list has, and each of them.
func putList[T any](w *row.Writer, l []T, put func(w *row.Writer, part T)) {
	w.N(uint64(len(l)))
	for _, part := range l {
		put(w, part)
	}
}

// readList reads what putList wrote, if it has not too many parts.
func readList[T any](r *row.Reader, read func(r *row.Reader) T) []T {
	var l []T
	for range r.N(mostParts) {
		l = append(l, read(r))
	}
	return l
}

// putLock writes a lock.
func putLock(w *row.Writer, l api.Lock) {
	w.N(l.Txn)
	putInt(w, l.Level)
	putInt(w, l.Mode)
	w.Text(l.Lo)
	w.Text(l.Hi)
}

// readLock reads what putLock wrote.
func readLock(r *row.Reader) api.Lock {
	var l api.Lock
	l.Txn = readNumber(r)
	l.Level = readInt(r)
	l.Mode = readInt(r)
	l.Lo = readText(r)
	l.Hi = readText(r)
	return l
}

// putWrite writes what becomes of a key.
func putWrite(w *row.Writer, x api.Write) {
	w.Text(x.Key)
	putFlag(w, x.Dead)
	w.Text(x.Val)
}

// readWrite reads what putWrite wrote.
func readWrite(r *row.Reader) api.Write {
	var x api.Write
	x.Key = readText(r)
	x.Dead = readFlag(r)
	x.Val = readText(r)
	return x
}

// putTable writes a table.
func putTable(w *row.Writer, t api.Table) {
	w.I(t.Id)
	w.Text([]byte(t.Name))
	putList(w, t.Cols, putCol)
	putInt(w, t.Key)
	putList(w, t.Indexes, putInt)
}

// readTable reads what putTable wrote.
func readTable(r *row.Reader) api.Table {
	var t api.Table
	t.Id = r.I()
	t.Name = string(readText(r))
	t.Cols = readList(r, readCol)
	t.Key = readInt(r)
	t.Indexes = readList(r, readInt)
	return t
}

// putCol writes a column.
func putCol(w *row.Writer, c api.Col) {
	w.Text([]byte(c.Name))
	putInt(w, c.Kind)
	putFlag(w, c.NotNull)
}

// readCol reads what putCol wrote.
func readCol(r *row.Reader) api.Col {
	var c api.Col
	c.Name = string(readText(r))
	c.Kind = readInt(r)
	c.NotNull = readFlag(r)
	return c
}
