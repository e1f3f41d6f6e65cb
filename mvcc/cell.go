package mvcc

import (
	"slices"
	"sort"

	"plenum/api"
)

// cell is what a key has; a nil one has nothing.
type cell struct {
	versions []api.Version // the greatest Ts ahead, no two with the same
	intent   api.Version   // Txn 0: none
}

// put takes v in, in the place of a version with the same Ts; v is the cell's
// own from then on.
func (c *cell) put(v api.Version) {
	at := c.place(v.Ts)
	if at < len(c.versions) && c.versions[at].Ts == v.Ts {
		c.versions[at] = v
		return
	}
	c.versions = slices.Insert(c.versions, at, v)
}

// place answers how many versions have a Ts above ts: where the first one that
// is read at ts stands, or would stand.
func (c *cell) place(ts uint64) int {
	return sort.Search(len(c.versions), func(i int) bool { return c.versions[i].Ts <= ts })
}

// upTo answers the versions with a Ts of at most ts, the greatest ahead; they
// are still the cell's.
func (c *cell) upTo(ts uint64) []api.Version {
	if c == nil {
		return nil
	}
	return c.versions[c.place(ts):]
}

// intended answers whether there is an intent.
func (c *cell) intended() bool {
	return c != nil && c.intent.Txn != 0
}

// taken answers whether there is an intent of another transaction than txn.
func (c *cell) taken(txn uint64) bool {
	return c.intended() && c.intent.Txn != txn
}

// empty answers whether there is neither a version nor an intent.
func (c *cell) empty() bool {
	return c == nil || len(c.versions) == 0 && !c.intended()
}

// gc takes away the versions older than the one that is read at ts, and that
// one, too, if it is Dead: no version is read as a dead one is. It answers how
// many.
func (c *cell) gc(ts uint64) int {
	from := c.place(ts)
	if from < len(c.versions) && !c.versions[from].Dead {
		from++
	}
	gone := len(c.versions) - from
	c.versions = slices.Delete(c.versions, from, len(c.versions))
	return gone
}
