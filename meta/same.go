package meta

import (
	"bytes"
	"slices"

	"plenum/api"
)

// SameResult answers whether all parts of two results are alike (P15.2).
func SameResult(a, b api.Result) bool {
	return a.Err == b.Err && a.Txn == b.Txn && a.Ts == b.Ts && a.Flag == b.Flag &&
		slices.Equal(a.States, b.States) &&
		slices.EqualFunc(a.Cells, b.Cells, sameCell) &&
		slices.EqualFunc(a.Tables, b.Tables, sameTable)
}

// sameCell answers the same of two cells.
func sameCell(a, b api.Cell) bool {
	return bytes.Equal(a.Key, b.Key) && slices.EqualFunc(a.Versions, b.Versions, sameVersion) && sameVersion(a.Intent, b.Intent)
}

// sameVersion answers the same of two versions.
func sameVersion(a, b api.Version) bool {
	return a.Ts == b.Ts && a.Txn == b.Txn && a.Dead == b.Dead && bytes.Equal(a.Val, b.Val) &&
		slices.EqualFunc(a.Keys, b.Keys, bytes.Equal)
}

// sameTable answers the same of two tables.
func sameTable(a, b api.Table) bool {
	return a.Id == b.Id && a.Name == b.Name && slices.Equal(a.Cols, b.Cols) && a.Key == b.Key && slices.Equal(a.Indexes, b.Indexes)
}
