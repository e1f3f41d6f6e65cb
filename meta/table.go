package meta

import (
	"slices"

	"plenum/api"
	"plenum/twin"
)

// What a table has at most.
const (
	mostCols    = 12
	mostIndexes = 4
)

// table takes a table into the catalog, if it may be.
func (m *Machine) table(t api.Table) api.Result {
	if !mayBe(t) || m.named(t.Name) || len(m.tables) >= api.MaxTables {
		return api.Result{Err: api.ErrTable}
	}
	t = twin.Table(t)
	t.Id = int64(len(m.tables)) + 1
	t.Cols[t.Key].NotNull = true
	m.tables = append(m.tables, t)
	return api.Result{Tables: []api.Table{twin.Table(t)}}
}

// named answers whether there is a table with that name.
func (m *Machine) named(name string) bool {
	return slices.ContainsFunc(m.tables, func(t api.Table) bool { return t.Name == name })
}

// mayBe answers whether there may be such a table, whichever others there are.
func mayBe(t api.Table) bool {
	return t.Name != "" && colsMayBe(t.Cols) && isPlace(t.Key, t.Cols) && indexesMayBe(t.Indexes, t.Cols)
}

// colsMayBe answers whether a table may have such columns.
func colsMayBe(l []api.Col) bool {
	if len(l) == 0 || len(l) > mostCols {
		return false
	}
	for i, c := range l {
		there := slices.ContainsFunc(l[:i], func(x api.Col) bool { return x.Name == c.Name })
		if c.Name == "" || there || c.Kind != api.Int && c.Kind != api.Text {
			return false
		}
	}
	return true
}

// indexesMayBe answers whether a table with such columns may have such indexes.
func indexesMayBe(l []int, cols []api.Col) bool {
	if len(l) > mostIndexes {
		return false
	}
	for i, place := range l {
		if !isPlace(place, cols) || slices.Contains(l[:i], place) {
			return false
		}
	}
	return true
}

// isPlace answers whether a column stands at that place.
func isPlace(place int, cols []api.Col) bool {
	return 0 <= place && place < len(cols)
}
