package group

import (
	"math"

	"plenum/api"
	"plenum/row"
)

// mostTexts is how many texts a list as bytes has at most, and so how many a
// compaction takes.
const mostTexts = 2000

// PutList answers a list of texts as bytes (P11.4).
func PutList(l [][]byte) []byte {
	w := &row.Writer{}
	w.N(uint64(len(l)))
	for _, b := range l {
		w.Text(b)
	}
	return w.Bytes()
}

// OfList answers the list with just these bytes; ErrRow, if there is none, or it
// has more than 2000 texts (P11.4).
func OfList(b []byte) ([][]byte, api.Errno) {
	r := row.Read(b)
	var l [][]byte
	for range r.N(mostTexts) {
		l = append(l, r.Text(math.MaxInt))
	}
	if e := r.End(); e != api.OK {
		return nil, e
	}
	return l, api.OK
}
