package raft

import (
	"bytes"
	"fmt"
	"math"
	"slices"
	"testing"

	"plenum/api"
	"plenum/rlog"
)

// P9.6: the greatest index that a majority matches, with an even and an odd
// number of members, whatever the order in which they tell.
func TestCommitRule(t *testing.T) {
	for _, c := range []struct {
		matches []uint64 // of the members 2, 3, ..
		want    uint64
	}{
		{[]uint64{0}, 0}, {[]uint64{1}, 1}, {[]uint64{7}, 7},
		{[]uint64{0, 0}, 0}, {[]uint64{0, 4}, 4}, {[]uint64{5, 4}, 5}, {[]uint64{7, 1}, 7},
		{[]uint64{0, 0, 7}, 0}, {[]uint64{0, 3, 7}, 3}, {[]uint64{5, 6, 7}, 6}, {[]uint64{4, 0, 4}, 4},
		{[]uint64{0, 0, 0, 7}, 0}, {[]uint64{7, 0, 2, 0}, 2}, {[]uint64{1, 2, 3, 4}, 3}, {[]uint64{7, 7, 7, 7}, 7},
		{[]uint64{7, 7, 0, 0, 0}, 0}, {[]uint64{7, 7, 5, 0, 0}, 5}, {[]uint64{7, 6, 5, 4, 3, 2, 1}, 4}, {[]uint64{1, 2, 3, 4, 5, 6, 7, 7}, 5},
	} {
		for _, backwards := range []bool{false, true} {
			members := []uint64{1}
			for i := range c.matches {
				members = append(members, uint64(i)+2)
			}
			n := leader(t, members...)
			for range 6 {
				n.Propose([]byte("x"))
			}
			told := slices.Clone(members[1:])
			if backwards {
				slices.Reverse(told)
			}
			for _, m := range told {
				match(n, m, c.matches[m-2])
			}
			stands(t, fmt.Sprint("matches ", c.matches), n, Leader, 1, 1, c.want)
			if l := n.Committed(100); uint64(len(l)) != c.want {
				t.Errorf("matches %v: %d are given out", c.matches, len(l))
			}
		}
	}
}

// P9.6: an entry of the leader's own Term commits those of earlier Terms, even
// where they stand behind it.
func TestCommitRuleWithEarlierTerms(t *testing.T) {
	n := node(1, api.Hard{Term: 3}, []uint64{1, 2, 3}, 1, 2, 3)
	elect(t, n, 2)
	for index := uint64(1); index <= 3; index++ {
		match(n, 2, index)
		match(n, 3, index)
		stands(t, "entries of earlier Terms", n, Leader, 4, 1, 0)
	}
	match(n, 3, 4)
	stands(t, "its own entry", n, Leader, 4, 1, 4)

	// Not by what Terms should be, but by the words: Terms that don't rise.
	l := logOf(api.Snap{Members: []uint64{1, 2, 3}}, 4, 2)
	n = New(1, api.Hard{Term: 3}, l)
	elect(t, n, 2)
	match(n, 2, 2)
	stands(t, "one of Term 4 ahead of one of Term 2", n, Leader, 4, 1, 1)
}

// P9.6: a node alone commits what it appends, behind entries of any Term.
func TestCommitRuleAlone(t *testing.T) {
	n := node(1, api.Hard{Term: 3}, []uint64{1}, 1, 2, 3)
	elect(t, n)
	stands(t, "alone", n, Leader, 4, 1, 4)
	if l := n.Committed(9); len(l) != 4 {
		t.Errorf("given out: %v", l)
	}
}

// committed answers a leader in Term 1 of these members whose first entry is
// committed, and given out.
func committed(t *testing.T, members ...uint64) *Node {
	t.Helper()
	n := leader(t, members...)
	for _, m := range members[1:] {
		match(n, m, 1)
	}
	n.Committed(9)
	n.Outbox()
	stands(t, "ahead of it", n, Leader, 1, 1, 1)
	return n
}

// P9.6, P9.7: a leader that is no member any more leads till that is committed,
// and doesn't count for itself.
func TestLeaderThatIsNoMember(t *testing.T) {
	n := committed(t, 1, 2, 3)
	i, e := n.Change([]uint64{2, 3})
	if i != 2 || e != api.OK {
		t.Fatalf("Change: %d, %v", i, e)
	}
	stands(t, "ahead of the commit", n, Leader, 1, 1, 1)
	if i, e := n.Propose([]byte("x")); i != 3 || e != api.OK {
		t.Errorf("Propose of who leaves: %d, %v", i, e)
	}
	n.Outbox()
	match(n, 2, 2)
	stands(t, "one of two", n, Leader, 1, 1, 1)
	sent(t, "one of two", n, api.Msg{Kind: api.AskAppend, From: 1, To: 2, Term: 1, Index: 2, LogTerm: 1, Commit: 1, Entries: n.Log().Entries(3, 9)})
	match(n, 3, 2)
	stands(t, "both", n, Follower, 1, 0, 2)
	sent(t, "both: what it lacks is sent all the same", n, api.Msg{Kind: api.AskAppend, From: 1, To: 3, Term: 1, Index: 2, LogTerm: 1, Commit: 2, Entries: n.Log().Entries(3, 9)})
	if _, e := n.Propose(nil); e != api.ErrLeader {
		t.Errorf("Propose of who left: %v", e)
	}
	for range 50 {
		n.Tick(0)
	}
	stands(t, "it never stands", n, Follower, 1, 0, 2)
	sent(t, "it never stands", n)
}

// P9.6: with both at once at the last index nothing more is sent.
func TestLeaderThatLeftSendsNoMore(t *testing.T) {
	n := committed(t, 1, 2)
	n.Change([]uint64{2})
	sent(t, "to the only other one", n, api.Msg{Kind: api.AskAppend, From: 1, To: 2, Term: 1, Index: 1, LogTerm: 1, Commit: 1, Entries: []api.Entry{config(2, 1, 2)}})
	match(n, 2, 2)
	stands(t, "left", n, Follower, 1, 0, 2)
	sent(t, "left", n)
}

// P9.7: data of up to 4096 bytes, at the leader alone.
func TestPropose(t *testing.T) {
	n := committed(t, 1, 2, 3)
	for i, size := range []int{0, 1, 4095, 4096} {
		data := bytes.Repeat([]byte{7}, size)
		index, e := n.Propose(data)
		want := uint64(i) + 2
		if index != want || e != api.OK {
			t.Errorf("Propose of %d bytes: %d, %v", size, index, e)
		}
		added := api.Entry{Index: want, Term: 1, Data: data}
		if l := n.Log().Entries(want, 9); !sameEntries(l, []api.Entry{added}) {
			t.Errorf("Propose of %d bytes appended %v", size, l)
		}
		stands(t, "not committed yet", n, Leader, 1, 1, 1)
		since := n.Log().Entries(2, 16)
		sent(t, "Propose", n,
			api.Msg{Kind: api.AskAppend, From: 1, To: 2, Term: 1, Index: 1, LogTerm: 1, Commit: 1, Entries: since},
			api.Msg{Kind: api.AskAppend, From: 1, To: 3, Term: 1, Index: 1, LogTerm: 1, Commit: 1, Entries: since})
	}
	for _, size := range []int{4097, 70000} {
		index, e := n.Propose(make([]byte, size))
		is(t, fmt.Sprint("Propose of ", size, " bytes"), e, api.ErrLong)
		if index != 0 || n.Log().Last() != 5 {
			t.Errorf("Propose of %d bytes: %d", size, index)
		}
	}
	sent(t, "too long", n)
}

// P9.7: ErrLong ahead of ErrLeader; nothing is appended.
func TestProposeAtNoLeader(t *testing.T) {
	for _, n := range all(t)[:2] {
		_, e := n.Propose(nil)
		is(t, "Propose of nothing", e, api.ErrLeader)
		_, e = n.Propose(make([]byte, 4096))
		is(t, "Propose of 4096 bytes", e, api.ErrLeader)
		i, e := n.Propose(make([]byte, 4097))
		is(t, "Propose of 4097 bytes", e, api.ErrLong)
		if i != 0 || n.Log().Last() != 0 || len(n.Outbox()) != 0 || len(n.Records()) != 0 {
			t.Error("something was done")
		}
	}
}

// noLists are no lists of members.
func noLists() [][]uint64 {
	return [][]uint64{nil, {}, {0}, {1, 0}, {0, 1, 2}, {1, 1}, {1, 2, 1}, {2, 3, 1, 3}, {1, 2, 3, 4, 5, 6, 7, 8, 9, 10}, slices.Repeat([]uint64{1}, 10)}
}

// P9.7: ErrRange ahead of ErrLeader ahead of ErrMember.
func TestChangeOfNoList(t *testing.T) {
	for _, l := range noLists() {
		for _, n := range append(all(t), committed(t, 1, 2, 3)) {
			last := n.Log().Last()
			i, e := n.Change(l)
			is(t, fmt.Sprint("Change to ", l), e, api.ErrRange)
			if i != 0 || n.Log().Last() != last || len(n.Outbox()) != 0 {
				t.Errorf("Change to %v did something", l)
			}
		}
	}
	for _, l := range [][]uint64{{1}, {1, 2}, {4, 3, 2, 1}, {1, 2, 3}, {1, 2, 3, 4, 5, 6, 7, 8, 9}} {
		for _, n := range all(t)[:2] {
			_, e := n.Change(l)
			is(t, fmt.Sprint("Change to ", l, " at no leader"), e, api.ErrLeader)
		}
		_, e := all(t)[Leader].Change(l)
		is(t, fmt.Sprint("Change to ", l, " ahead of the commit"), e, api.ErrMember)
	}
}

// P9.7: just one more, or one less.
func TestChangeByOne(t *testing.T) {
	for _, c := range []struct {
		list []uint64
		ok   bool
	}{
		{[]uint64{1, 2}, true}, {[]uint64{3, 1}, true}, {[]uint64{3, 2}, true}, {[]uint64{1, 2, 3, 4}, true}, {[]uint64{9, 3, 2, 1}, true}, {[]uint64{math.MaxUint64, 1, 2, 3}, true},
		{[]uint64{1, 2, 3}, false}, {[]uint64{3, 2, 1}, false}, {[]uint64{1}, false}, {[]uint64{4}, false}, {[]uint64{1, 2, 3, 4, 5}, false},
		{[]uint64{1, 2, 4}, false}, {[]uint64{1, 4}, false}, {[]uint64{1, 2, 4, 5}, false}, {[]uint64{4, 5, 6, 7}, false}, {[]uint64{5, 6}, false},
	} {
		n := committed(t, 1, 2, 3)
		i, e := n.Change(c.list)
		if !c.ok {
			is(t, fmt.Sprint("Change to ", c.list), e, api.ErrMember)
			sent(t, fmt.Sprint("Change to ", c.list), n)
			if i != 0 || n.Log().Last() != 1 {
				t.Errorf("Change to %v did something", c.list)
			}
			continue
		}
		is(t, fmt.Sprint("Change to ", c.list), e, api.OK)
		want := slices.Sorted(slices.Values(c.list))
		if l := n.Log().Entries(2, 9); i != 2 || !sameEntries(l, []api.Entry{{Index: 2, Term: 1, Kind: api.Config, Data: rlog.PutMembers(want)}}) {
			t.Errorf("Change to %v: %d, appended %v", c.list, i, l)
		}
		if got, at := n.Log().Members(); at != 2 || !slices.Equal(got, want) {
			t.Errorf("Change to %v: members %v by %d", c.list, got, at)
		}
	}
}

// P9.7: from one to nine and back again, one at a time, each committed ahead of
// the next.
func TestChangeOneByOne(t *testing.T) {
	n := committed(t, 1)
	members := []uint64{1}
	change := func() {
		t.Helper()
		i, e := n.Change(members)
		is(t, fmt.Sprint("Change to ", members), e, api.OK)
		for _, m := range members[1:] {
			match(n, m, i)
		}
		stands(t, fmt.Sprint("members ", members), n, Leader, 1, 1, i)
	}
	for m := uint64(2); m <= 9; m++ {
		members = append(members, m)
		change()
	}
	_, e := n.Change(append(members, 10))
	is(t, "a tenth one", e, api.ErrRange)
	for len(members) > 1 {
		members = members[:len(members)-1]
		change()
	}
}

// P9.7: a change waits for the commit of the one ahead, and of an entry of the
// leader's Term.
func TestChangeWaits(t *testing.T) {
	n := leader(t, 1, 2, 3)
	_, e := n.Change([]uint64{1, 2})
	is(t, "ahead of the commit of its first entry", e, api.ErrMember)
	match(n, 2, 1)
	_, e = n.Change([]uint64{1, 2})
	is(t, "behind it", e, api.OK)
	_, e = n.Change([]uint64{1})
	is(t, "ahead of the commit of the last change", e, api.ErrMember)
	n.Propose(nil)
	_, e = n.Change([]uint64{1})
	is(t, "ahead of the commit of the last change, with a proposal", e, api.ErrMember)
	match(n, 2, 2)
	stands(t, "the change alone is committed", n, Leader, 1, 1, 2)
	i, e := n.Change([]uint64{1})
	is(t, "behind the commit of the last change", e, api.OK)
	stands(t, "alone", n, Leader, 1, 1, i)

	// All is committed in Term 1, and the next leader hasn't committed yet.
	n = node(1, api.Hard{Term: 1}, []uint64{1, 2, 3}, 1, 1)
	n.Step(api.Msg{Kind: api.AskAppend, From: 2, To: 1, Term: 1, Index: 2, LogTerm: 1, Commit: 2})
	elect(t, n, 2)
	stands(t, "elected", n, Leader, 2, 1, 2)
	_, e = n.Change([]uint64{1, 2})
	is(t, "nothing of its Term is committed", e, api.ErrMember)
	match(n, 3, 3)
	_, e = n.Change([]uint64{1, 2})
	is(t, "its first entry is committed", e, api.OK)
}

// P9.7: the committed entry may be the one that a snapshot stands for.
func TestChangeBehindASnapshot(t *testing.T) {
	n := committed(t, 1, 2, 3)
	is(t, "Compact", n.Compact(1, nil), api.OK)
	_, e := n.Change([]uint64{1, 2})
	is(t, "behind a snapshot of its Term", e, api.OK)
}

// P9.7: what a new member is sent, and one that goes isn't.
func TestChangeSends(t *testing.T) {
	n := committed(t, 1, 2)
	n.Propose([]byte("x"))
	n.Outbox()
	i, _ := n.Change([]uint64{3, 1, 2})
	told := config(i, 1, 1, 2, 3)
	since := n.Log().Entries(2, 9)
	sent(t, "a new member", n,
		api.Msg{Kind: api.AskAppend, From: 1, To: 2, Term: 1, Index: 1, LogTerm: 1, Commit: 1, Entries: since},
		api.Msg{Kind: api.AskAppend, From: 1, To: 3, Term: 1, Index: 2, LogTerm: 1, Commit: 1, Entries: []api.Entry{told}})
	match(n, 2, 3)
	stands(t, "two of three", n, Leader, 1, 1, 3)
	n.Step(api.Msg{Kind: api.TellMatch, From: 3, To: 1, Term: 1, Reject: true, Index: 2, Hint: 0})
	sent(t, "a new member that lacks all", n, api.Msg{Kind: api.AskAppend, From: 1, To: 3, Term: 1, Commit: 3, Entries: n.Log().Entries(1, 9)})

	n.Change([]uint64{1, 3})
	less := n.Outbox()
	if len(less) != 1 || less[0].To != 3 {
		t.Errorf("a member less: %v", less)
	}
	match(n, 2, 4)
	n.Step(api.Msg{Kind: api.TellMatch, From: 2, To: 1, Term: 1, Reject: true})
	sent(t, "who left", n)
	stands(t, "who left counts for nothing", n, Leader, 1, 1, 3)
	match(n, 3, 4)
	stands(t, "who stays counts", n, Leader, 1, 1, 4)
	n.Outbox()

	// Who comes back is new.
	n.Change([]uint64{1, 2, 3})
	sent(t, "back again", n,
		api.Msg{Kind: api.AskAppend, From: 1, To: 2, Term: 1, Index: 4, LogTerm: 1, Commit: 4, Entries: n.Log().Entries(5, 9)},
		api.Msg{Kind: api.AskAppend, From: 1, To: 3, Term: 1, Index: 4, LogTerm: 1, Commit: 4, Entries: n.Log().Entries(5, 9)})
	match(n, 2, 2)
	sent(t, "its match is 0 again", n, api.Msg{Kind: api.AskAppend, From: 1, To: 2, Term: 1, Index: 2, LogTerm: 1, Commit: 4, Entries: n.Log().Entries(3, 9)})
}

// P9.7: a group that becomes one node commits at once.
func TestChangeToOne(t *testing.T) {
	n := committed(t, 1, 2)
	i, e := n.Change([]uint64{1})
	is(t, "Change", e, api.OK)
	stands(t, "alone", n, Leader, 1, 1, i)
	sent(t, "alone", n)
	n = committed(t, 1)
	n.Change([]uint64{1, 2})
	stands(t, "two", n, Leader, 1, 1, 1)
}

// P9.7: Compact up to what was given out.
func TestCompact(t *testing.T) {
	n := committed(t, 1, 2, 3)
	for range 5 {
		n.Propose([]byte("x"))
	}
	match(n, 2, 5)
	n.Committed(2)
	stands(t, "ahead of it", n, Leader, 1, 1, 5)
	for _, i := range []uint64{0, 4, 5, 6, 7, math.MaxUint64} {
		is(t, fmt.Sprint("Compact at ", i), n.Compact(i, []byte("s")), api.ErrRange)
	}
	hasTerms(t, "nothing is compacted", n, 1, 1, 1, 1, 1, 1, 1)
	is(t, "Compact at 2", n.Compact(2, []byte("two")), api.OK)
	is(t, "Compact at 2 again", n.Compact(2, []byte("two")), api.ErrRange)
	is(t, "Compact at 1", n.Compact(1, []byte("one")), api.ErrRange)
	is(t, "Compact at 3", n.Compact(3, []byte("three")), api.OK)
	hasTerms(t, "compacted", n, 4, 1, 1, 1)
	if s := n.Log().Snap(); !sameSnap(s, api.Snap{Index: 3, Term: 1, Members: []uint64{1, 2, 3}, Data: []byte("three")}) {
		t.Errorf("snapshot %v", s)
	}
	stands(t, "compacted", n, Leader, 1, 1, 5)
	if _, ok := n.Restored(); ok {
		t.Error("what is compacted didn't come")
	}
	if l := n.Committed(9); len(l) != 2 || l[0].Index != 4 {
		t.Errorf("given out behind it: %v", l)
	}
}
