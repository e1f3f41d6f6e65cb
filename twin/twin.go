// Package twin makes copies of what lists hang on: a twin shares no memory with
// what it was made of, and no two of its lists share any (P2).
package twin

import (
	"bytes"
	"slices"

	"plenum/api"
)

// Texts answers a list of the same texts.
func Texts(l [][]byte) [][]byte {
	return each(l, bytes.Clone)
}

// Version answers the same version.
func Version(v api.Version) api.Version {
	v.Val, v.Keys = bytes.Clone(v.Val), Texts(v.Keys)
	return v
}

// Versions answers a list of the same versions.
func Versions(l []api.Version) []api.Version {
	return each(l, Version)
}

// Cell answers the same cell.
func Cell(c api.Cell) api.Cell {
	c.Key, c.Versions, c.Intent = bytes.Clone(c.Key), Versions(c.Versions), Version(c.Intent)
	return c
}

// Seen answers what was seen, the same.
func Seen(x api.Seen) api.Seen {
	x.Key, x.Keys = bytes.Clone(x.Key), Texts(x.Keys)
	return x
}

// Table answers the same table.
func Table(t api.Table) api.Table {
	t.Cols, t.Indexes = slices.Clone(t.Cols), slices.Clone(t.Indexes)
	return t
}

// Tables answers a list of the same tables.
func Tables(l []api.Table) []api.Table {
	return each(l, Table)
}

// Result answers the same result.
func Result(r api.Result) api.Result {
	r.States, r.Cells, r.Tables = slices.Clone(r.States), each(r.Cells, Cell), Tables(r.Tables)
	return r
}

// each answers a list of the parts' twins.
func each[T any](l []T, twin func(T) T) []T {
	l = slices.Clone(l)
	for i := range l {
		l[i] = twin(l[i])
	}
	return l
}
