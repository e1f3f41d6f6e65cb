package lock

import (
	"fmt"
	"slices"
	"strconv"
	"strings"
	"testing"

	"plenum/api"
)

// modeNames are the four modes as the chapter names them, by number.
var modeNames = []string{"", "IS", "IX", "S", "X"}

// of answers the lock that a text tells: the transaction, the mode and the
// bounds, as in "1 S a-m". "1 S a-" has nothing as Hi, and "1 S a-m whole" is of
// the level Whole.
func of(text string) api.Lock {
	parts := strings.Fields(text)
	txn, err := strconv.ParseUint(parts[0], 10, 64)
	mode := slices.Index(modeNames, parts[1])
	lo, hi, is := strings.Cut(parts[2], "-")
	if err != nil || mode < 1 || !is {
		panic("no lock: " + text)
	}
	l := api.Lock{Txn: txn, Level: api.Part, Mode: mode, Lo: []byte(lo), Hi: []byte(hi)}
	if len(parts) > 3 {
		l.Level = api.Whole
	}
	return l
}

// text answers the text that tells the lock.
func text(l api.Lock) string {
	s := fmt.Sprintf("%d %s %s-%s", l.Txn, modeNames[l.Mode], l.Lo, l.Hi)
	if l.Level == api.Whole {
		s += " whole"
	}
	return s
}

// texts answers the same of several.
func texts(l []api.Lock) string {
	var s []string
	for _, x := range l {
		s = append(s, text(x))
	}
	return strings.Join(s, ", ")
}

// edgeTexts answers edges as a text, as in "2>1 3>1".
func edgeTexts(l []api.Edge) string {
	var s []string
	for _, e := range l {
		s = append(s, fmt.Sprintf("%d>%d", e.From, e.To))
	}
	return strings.Join(s, " ")
}

// answer is what Ask answered, in a word.
func answer(is bool, e api.Errno) string {
	switch {
	case e == api.OK && is:
		return "true"
	case e == api.OK:
		return "false"
	case is:
		return "true, and an error"
	case e == api.ErrRange:
		return "range"
	case e == api.ErrDeadlock:
		return "deadlock"
	case e == api.ErrLocks:
		return "locks"
	}
	return fmt.Sprintf("error %d", e)
}

// calls does one call a line: a lock that is asked for, or free and the number
// of a transaction; and what it must answer, behind an arrow.
func calls(t *testing.T, table *Table, lines ...string) {
	t.Helper()
	for _, line := range lines {
		what, want, _ := strings.Cut(line, " -> ")
		got := ""
		if txn, is := strings.CutPrefix(what, "free "); is {
			n, _ := strconv.ParseUint(txn, 10, 64)
			got = strconv.Itoa(table.Free(n))
		} else {
			got = answer(table.Ask(of(what)))
		}
		if got != want {
			t.Errorf("%s: %s, want %s", what, got, want)
		}
	}
}

// stands holds all that the table tells to what it must.
func stands(t *testing.T, table *Table, held, waiting, edges string) {
	t.Helper()
	if got := texts(table.Held()); got != held {
		t.Errorf("held: %s; want %s", got, held)
	}
	if got := texts(table.Waiting()); got != waiting {
		t.Errorf("waiting: %s; want %s", got, waiting)
	}
	if got := edgeTexts(table.Edges()); got != edges {
		t.Errorf("edges: %s; want %s", got, edges)
	}
}

// The example of the chapter.
func TestExample(t *testing.T) {
	table := New()
	calls(t, table, "1 S a-b -> true", "2 X a-b -> false")
	stands(t, table, "1 S a-b", "2 X a-b", "2>1")
}

// P14.2, P14.3: a new table has nothing.
func TestNew(t *testing.T) {
	table := New()
	stands(t, table, "", "", "")
	calls(t, table, "free 1 -> 0", "free 0 -> 0")
	stands(t, table, "", "", "")
}

// P14.2: two tables know nothing of each other.
func TestTwoTables(t *testing.T) {
	a, b := New(), New()
	calls(t, a, "1 X a-b -> true")
	calls(t, b, "2 X a-b -> true", "3 S a-b -> false")
	calls(t, a, "3 S a-c -> false", "free 2 -> 0")
	stands(t, a, "1 X a-b", "3 S a-c", "3>1")
	stands(t, b, "2 X a-b", "3 S a-b", "3>2")
}
