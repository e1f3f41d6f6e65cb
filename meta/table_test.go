package meta

import (
	"fmt"
	"math"
	"strings"
	"testing"

	"plenum/api"
)

// tableOf answers a table, one for each number, that may be.
func tableOf(n int) api.Table {
	return api.Table{
		Name:    fmt.Sprintf("t%d", n),
		Cols:    []api.Col{{Name: "a", Kind: api.Text}, {Name: "k", Kind: api.Int}, {Name: "b", Kind: api.Int, NotNull: true}},
		Key:     1,
		Indexes: []int{2, 0},
	}
}

// kept answers that table as it is kept under an Id.
func kept(n int, id int64) api.Table {
	t := tableOf(n)
	t.Id = id
	t.Cols[1].NotNull = true
	return t
}

// create answers the command that makes that table.
func create(n int) api.Command {
	return api.Command{Kind: api.CmdTable, Table: tableOf(n)}
}

// told answers the result with these tables, by Id.
func told(l ...int) api.Result {
	var r api.Result
	for i, n := range l {
		r.Tables = append(r.Tables, kept(n, int64(i)+1))
	}
	return r
}

// cols answers so many columns.
func cols(count int) []api.Col {
	var l []api.Col
	for i := range count {
		l = append(l, api.Col{Name: fmt.Sprintf("c%d", i), Kind: api.Int + i%2})
	}
	return l
}

// changed answers the first table with a change.
func changed(f func(t *api.Table)) api.Table {
	t := tableOf(1)
	f(&t)
	return t
}

// badTables are tables that may not be, by what is wrong with each.
func badTables() map[string]api.Table {
	l := map[string]api.Table{
		"nothing":              {},
		"no name":              changed(func(t *api.Table) { t.Name = "" }),
		"no columns":           changed(func(t *api.Table) { t.Cols, t.Key, t.Indexes = nil, 0, nil }),
		"empty columns":        changed(func(t *api.Table) { t.Cols, t.Key, t.Indexes = []api.Col{}, 0, nil }),
		"thirteen columns":     changed(func(t *api.Table) { t.Cols = cols(13) }),
		"many columns":         changed(func(t *api.Table) { t.Cols = cols(500) }),
		"no name of the first": changed(func(t *api.Table) { t.Cols[0].Name = "" }),
		"no name of the last":  changed(func(t *api.Table) { t.Cols[2].Name = "" }),
		"no name of the key":   changed(func(t *api.Table) { t.Cols[1].Name = "" }),
		"one name twice":       changed(func(t *api.Table) { t.Cols[1].Name = "a" }),
		"one name at the ends": changed(func(t *api.Table) { t.Cols[2].Name = "a" }),
		"one name, two kinds":  changed(func(t *api.Table) { t.Cols = []api.Col{{Name: "k", Kind: api.Int}, {Name: "k", Kind: api.Text}} }),
		"one name in twelve":   changed(func(t *api.Table) { t.Cols = cols(12); t.Cols[11].Name = "c4" }),
		"one index twice":      changed(func(t *api.Table) { t.Indexes = []int{2, 2} }),
		"the key index twice":  changed(func(t *api.Table) { t.Indexes = []int{1, 0, 1} }),
		"five indexes":         changed(func(t *api.Table) { t.Cols = cols(12); t.Indexes = []int{0, 1, 2, 3, 4} }),
		"many alike":           changed(func(t *api.Table) { t.Indexes = []int{0, 0, 0, 0, 0} }),
		"many indexes":         changed(func(t *api.Table) { t.Indexes = []int{0, 1, 2, 3, 4, 5, 6, 7, 8, 9, 10, 11} }),
	}
	for _, kind := range []int{math.MinInt, -1, api.Null, 3, 4, 257, 258, 1<<32 + 1, 1<<32 + 2, math.MaxInt} {
		for at := range 3 {
			l[fmt.Sprintf("kind %d at %d", kind, at)] = changed(func(t *api.Table) { t.Cols[at].Kind = kind })
		}
	}
	for _, place := range []int{math.MinInt, -3, -1, 3, 4, 12, 1 << 32, 1<<32 + 1, math.MaxInt} {
		l[fmt.Sprintf("key %d", place)] = changed(func(t *api.Table) { t.Key = place })
		l[fmt.Sprintf("index %d", place)] = changed(func(t *api.Table) { t.Indexes = []int{place} })
		l[fmt.Sprintf("index %d behind others", place)] = changed(func(t *api.Table) { t.Indexes = []int{1, 0, place} })
	}
	return l
}

// P15.1: tables that may be: what is handed out has its Id, and its key column
// is NotNull; nothing else is changed.
func TestTable(t *testing.T) {
	long := strings.Repeat("n", 70000)
	for what, x := range map[string]api.Table{
		"three columns":       tableOf(1),
		"one column":          {Name: "t", Cols: []api.Col{{Name: "k", Kind: api.Int}}},
		"one text":            {Name: "t", Cols: []api.Col{{Name: "k", Kind: api.Text}}, Indexes: []int{0}},
		"not null already":    {Name: "t", Cols: []api.Col{{Name: "k", Kind: api.Text, NotNull: true}, {Name: "K", Kind: api.Text}}},
		"one name for all":    {Name: "t", Cols: []api.Col{{Name: "t", Kind: api.Int}}},
		"an Id":               {Id: 9, Name: "t", Cols: cols(2), Key: 1},
		"an Id below 0":       {Id: -1, Name: "t", Cols: cols(2)},
		"twelve columns":      {Name: "t", Cols: cols(12), Key: 11, Indexes: []int{11, 0, 10, 1}},
		"the key as an index": {Name: "t", Cols: cols(3), Key: 2, Indexes: []int{2}},
		"four indexes":        {Name: "t", Cols: cols(4), Key: 2, Indexes: []int{3, 2, 1, 0}},
		"long names":          {Name: long, Cols: []api.Col{{Name: long, Kind: api.Int}, {Name: long + "n", Kind: api.Int}}},
		"any bytes":           {Name: "\x00\xff", Cols: []api.Col{{Name: "\x00", Kind: api.Int}, {Name: "\x00\x00", Kind: api.Int}, {Name: "\xff ", Kind: api.Int}}},
	} {
		want := x
		want.Id = 1
		want.Cols = append([]api.Col{}, x.Cols...)
		want.Cols[x.Key].NotNull = true
		m := New()
		for range 2 {
			if got := m.Do(from(1, 1, api.Command{Kind: api.CmdTable, Table: x})); !alike(got, api.Result{Tables: []api.Table{want}}) {
				t.Errorf("%s: %+v, want %+v", what, got, want)
			}
		}
		does(t, m, catalog(), api.Result{Tables: []api.Table{want}})
	}
}

// P15.1: tables that may not be, whether others are there or not: nothing is
// added.
func TestTableThatMayNotBe(t *testing.T) {
	empty, other := New(), with(create(7))
	for what, x := range badTables() {
		c := api.Command{Kind: api.CmdTable, Table: x}
		for _, m := range []*Machine{empty, other} {
			if got := m.Do(c); !alike(got, refused(api.ErrTable)) {
				t.Errorf("%s: %+v", what, got)
			}
		}
	}
	does(t, empty, catalog(), api.Result{})
	does(t, other, catalog(), told(7))
	does(t, empty, create(1), told(1))
	does(t, other, create(1), api.Result{Tables: []api.Table{kept(1, 2)}})
}

// P15.1: a Name is there once; the column's Names may be those of other tables.
func TestTableWhoseNameIsThere(t *testing.T) {
	m := with(create(1), create(2))
	does(t, m, create(1), refused(api.ErrTable))
	does(t, m, create(2), refused(api.ErrTable))
	x := api.Table{Name: "t1", Cols: []api.Col{{Name: "q", Kind: api.Int}}, Id: 3}
	does(t, m, api.Command{Kind: api.CmdTable, Table: x}, refused(api.ErrTable))
	for i, name := range []string{"T1", "t1 ", "t", "t11", "a", "t1\x00"} {
		x.Name = name
		if got := m.Do(api.Command{Kind: api.CmdTable, Table: x}); len(got.Tables) != 1 || got.Tables[0].Name != name || got.Tables[0].Id != int64(i)+3 {
			t.Errorf("%q: %+v", name, got)
		}
	}
	does(t, m, create(1), refused(api.ErrTable))
}

// P15.1: forty tables, and no more; each Id is one more than how many there were,
// also where a table was refused meanwhile. CmdCatalog tells all, by Id.
func TestFortyTables(t *testing.T) {
	m := New()
	var l []int
	for i := range 40 {
		n := 90 - i // Ids aren't in the order of names
		does(t, m, create(n), api.Result{Tables: []api.Table{kept(n, int64(i)+1)}})
		does(t, m, create(n), refused(api.ErrTable))
		does(t, m, api.Command{Kind: api.CmdTable}, refused(api.ErrTable))
		l = append(l, n)
		does(t, m, catalog(), told(l...))
	}
	for _, n := range []int{1, 2, 51, 90} {
		does(t, m, create(n), refused(api.ErrTable))
	}
	does(t, m, catalog(), told(l...))
	if api.MaxTables != 40 {
		t.Error("MaxTables isn't 40")
	}
}

// P15.1: CmdCatalog and CmdTable don't ask who asks, nor for what else.
func TestTableWithEverything(t *testing.T) {
	m := New()
	c := full()
	c.Client, c.Kind, c.Table = 0, api.CmdTable, tableOf(4)
	does(t, m, c, told(4))
	c.Kind = api.CmdCatalog
	c.Table = api.Table{Name: "none"}
	does(t, m, c, told(4))
	does(t, m, begin(), began(1, 0))
	clock(t, m, 0)
	stands(t, m, "", "")
}
