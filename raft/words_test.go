package raft

import (
	"bytes"
	"fmt"
	"math"
	"math/rand"
	"slices"
	"testing"

	"plenum/api"
	"plenum/rlog"
)

// byWords is a node as the chapter's words say it, one sentence behind the
// other.
type byWords struct {
	id          uint64
	hard, told  api.Hard
	snap        api.Snap
	log         []api.Entry
	role, ticks int
	leader      uint64
	commit      uint64
	given       uint64
	votes       []uint64
	next, match map[uint64]uint64
	out         []api.Msg
	newFrom     uint64
	newSnap     bool
	came        bool
}

// ofWords answers a node of that snapshot and these entries, which are
// remembered.
func ofWords(id uint64, h api.Hard, s api.Snap, l []api.Entry) *byWords {
	return &byWords{id: id, hard: h, told: h, snap: s, log: slices.Clone(l), ticks: 10, commit: s.Index, given: s.Index}
}

func (w *byWords) first() uint64 { return w.snap.Index + 1 }
func (w *byWords) last() uint64  { return w.snap.Index + uint64(len(w.log)) }

// at answers the entry with that index; the snapshot's Term counts as one.
func (w *byWords) at(i uint64) (api.Entry, bool) {
	if i == w.snap.Index {
		return api.Entry{Index: i, Term: w.snap.Term}, true
	}
	for _, e := range w.log {
		if e.Index == i {
			return e, true
		}
	}
	return api.Entry{}, false
}

func (w *byWords) from(i uint64) []api.Entry {
	var l []api.Entry
	for _, e := range w.log {
		if e.Index >= i {
			l = append(l, e)
		}
	}
	return l
}

func (w *byWords) append(l ...api.Entry) {
	if len(l) == 0 {
		return
	}
	for len(w.log) > 0 && w.log[len(w.log)-1].Index >= l[0].Index {
		w.log = w.log[:len(w.log)-1]
	}
	w.log = append(slices.Clone(w.log), l...)
	if w.newFrom == 0 || w.newFrom > l[0].Index {
		w.newFrom = l[0].Index
	}
}

func (w *byWords) members() ([]uint64, uint64) {
	return membersOf(w.snap, w.log)
}

func membersOf(s api.Snap, l []api.Entry) ([]uint64, uint64) {
	for i := len(l) - 1; i >= 0; i-- {
		if m, e := rlog.OfMembers(l[i].Data); l[i].Kind == api.Config && e == api.OK {
			return m, l[i].Index
		}
	}
	return s.Members, s.Index
}

func (w *byWords) isMember(id uint64) bool {
	m, _ := w.members()
	return slices.Contains(m, id)
}

func (w *byWords) tell(m api.Msg) {
	m.From, m.Term = w.id, w.hard.Term
	w.out = append(w.out, m)
}

func (w *byWords) tick(draw uint64) {
	if w.role == Leader {
		w.tellAll()
		return
	}
	w.ticks--
	if w.ticks > 0 {
		return
	}
	w.ticks = 5 + int(draw%8)
	if !w.isMember(w.id) {
		return
	}
	w.hard.Term++
	w.hard.Vote = w.id
	w.role, w.leader = Candidate, 0
	w.votes = []uint64{w.id}
	if w.elected() {
		w.lead()
		return
	}
	members, _ := w.members()
	last, _ := w.at(w.last())
	for _, m := range members {
		if m != w.id {
			w.tell(api.Msg{Kind: api.AskVote, To: m, Index: last.Index, LogTerm: last.Term})
		}
	}
}

func (w *byWords) elected() bool {
	members, _ := w.members()
	count := 0
	for _, m := range members {
		if slices.Contains(w.votes, m) {
			count++
		}
	}
	return 2*count > len(members)
}

func (w *byWords) lead() {
	w.role, w.leader = Leader, w.id
	w.next, w.match = map[uint64]uint64{}, map[uint64]uint64{}
	members, _ := w.members()
	for _, m := range members {
		w.next[m] = w.last() + 1
	}
	w.append(api.Entry{Index: w.last() + 1, Term: w.hard.Term})
	w.commitRule()
	w.tellAll()
}

func (w *byWords) tellAll() {
	members, _ := w.members()
	for _, m := range members {
		if m != w.id {
			w.tellAppend(m)
		}
	}
}

func (w *byWords) tellAppend(to uint64) {
	next := w.next[to]
	if next < w.first() {
		w.tell(api.Msg{Kind: api.AskSnap, To: to, Snap: w.snap})
		return
	}
	there, _ := w.at(next - 1)
	l := w.from(next)
	if len(l) > 16 {
		l = l[:16]
	}
	w.tell(api.Msg{Kind: api.AskAppend, To: to, Index: next - 1, LogTerm: there.Term, Entries: l, Commit: w.commit})
}

func (w *byWords) commitRule() {
	members, at := w.members()
	for i := w.last(); i > w.commit; i-- {
		count := 0
		for _, m := range members {
			if m == w.id || w.match[m] >= i {
				count++
			}
		}
		if e, _ := w.at(i); 2*count > len(members) && e.Term == w.hard.Term {
			w.commit = i
			break
		}
	}
	if at <= w.commit && !slices.Contains(members, w.id) {
		w.role, w.leader = Follower, 0
	}
}

func (w *byWords) step(m api.Msg) {
	if m.To != w.id {
		return
	}
	if m.Term > w.hard.Term {
		w.hard = api.Hard{Term: m.Term}
		w.role, w.leader = Follower, 0
	}
	if m.Term < w.hard.Term {
		if m.Kind == api.AskVote {
			w.tell(api.Msg{Kind: api.TellVote, To: m.From, Reject: true})
		}
		if m.Kind == api.AskAppend || m.Kind == api.AskSnap {
			w.tell(api.Msg{Kind: api.TellMatch, To: m.From, Reject: true})
		}
		return
	}
	if (m.Kind == api.AskAppend || m.Kind == api.AskSnap) && w.role != Leader {
		w.role, w.leader = Follower, m.From
		w.ticks = max(w.ticks, 5)
	}
	switch {
	case m.Kind == api.AskVote:
		w.askVote(m)
	case m.Kind == api.TellVote && w.role == Candidate && !m.Reject:
		w.votes = append(w.votes, m.From)
		if w.elected() {
			w.lead()
		}
	case m.Kind == api.AskAppend && w.role != Leader:
		w.askAppend(m)
	case m.Kind == api.TellMatch && w.role == Leader && w.isMember(m.From):
		w.tellMatch(m)
	case m.Kind == api.AskSnap && w.role != Leader:
		w.askSnap(m)
	}
}

func (w *byWords) askVote(m api.Msg) {
	own, _ := w.at(w.last())
	below := m.LogTerm < own.Term || m.LogTerm == own.Term && m.Index < own.Index
	if (w.hard.Vote != 0 && w.hard.Vote != m.From) || below {
		w.tell(api.Msg{Kind: api.TellVote, To: m.From, Reject: true})
		return
	}
	w.hard.Vote = m.From
	w.ticks = max(w.ticks, 5)
	w.tell(api.Msg{Kind: api.TellVote, To: m.From})
}

func (w *byWords) askAppend(m api.Msg) {
	if m.Index < w.snap.Index {
		w.tell(api.Msg{Kind: api.TellMatch, To: m.From, Index: w.commit})
		return
	}
	if e, ok := w.at(m.Index); !ok || e.Term != m.LogTerm {
		hint := uint64(0)
		if m.Index > 0 {
			hint = min(w.last(), m.Index-1)
		}
		w.tell(api.Msg{Kind: api.TellMatch, To: m.From, Reject: true, Index: m.Index, Hint: hint})
		return
	}
	for i, e := range m.Entries {
		if e.Index != m.Index+uint64(i)+1 {
			return
		}
	}
	rest := m.Entries
	for len(rest) > 0 {
		if e, ok := w.at(rest[0].Index); !ok || e.Term != rest[0].Term {
			break
		}
		rest = rest[1:]
	}
	if len(rest) > 0 && rest[0].Index <= w.commit {
		return
	}
	w.append(rest...)
	last := m.Index + uint64(len(m.Entries))
	if c := min(m.Commit, last); c > w.commit {
		w.commit = c
	}
	w.tell(api.Msg{Kind: api.TellMatch, To: m.From, Index: last})
}

func (w *byWords) tellMatch(m api.Msg) {
	if m.Reject {
		next := w.next[m.From] - 1
		if m.Hint < next {
			next = m.Hint + 1
		}
		if next == 0 {
			next = 1
		}
		w.next[m.From] = next
		w.tellAppend(m.From)
		return
	}
	if m.Index <= w.match[m.From] || m.Index > w.last() {
		return
	}
	w.match[m.From], w.next[m.From] = m.Index, m.Index+1
	w.commitRule()
	if w.next[m.From] <= w.last() {
		w.tellAppend(m.From)
	}
}

func (w *byWords) askSnap(m api.Msg) {
	s := m.Snap
	s.Index = min(s.Index, 1<<62)
	if s.Index <= w.commit {
		w.tell(api.Msg{Kind: api.TellMatch, To: m.From, Index: w.commit})
		return
	}
	if slices.Contains(s.Members, 0) {
		return // it can't be replayed
	}
	s.Members = slices.Compact(slices.Sorted(slices.Values(s.Members)))
	s.Members = s.Members[:min(9, len(s.Members))]
	var stayed []api.Entry
	if e, ok := w.at(s.Index); ok && e.Term == s.Term {
		stayed = w.from(s.Index + 1)
	}
	w.snap, w.log, w.commit = s, stayed, s.Index
	w.newSnap, w.came = true, true
	if w.newFrom > 0 {
		w.newFrom = w.first()
	}
	w.tell(api.Msg{Kind: api.TellMatch, To: m.From, Index: s.Index})
}

func (w *byWords) propose(data []byte) (uint64, api.Errno) {
	if len(data) > 4096 {
		return 0, api.ErrLong
	}
	if w.role != Leader {
		return 0, api.ErrLeader
	}
	i := w.last() + 1
	w.append(api.Entry{Index: i, Term: w.hard.Term, Data: data})
	w.commitRule()
	w.tellAll()
	return i, api.OK
}

func (w *byWords) change(l []uint64) (uint64, api.Errno) {
	if len(l) < 1 || len(l) > 9 {
		return 0, api.ErrRange
	}
	for i, m := range l {
		if m == 0 || slices.Contains(l[:i], m) {
			return 0, api.ErrRange
		}
	}
	if w.role != Leader {
		return 0, api.ErrLeader
	}
	members, at := w.members()
	var more []uint64
	for _, m := range l {
		if !slices.Contains(members, m) {
			more = append(more, m)
		}
	}
	both := len(l) - len(more)
	oneMore := len(more) == 1 && both == len(members)
	oneLess := len(more) == 0 && both == len(members)-1
	committed, _ := w.at(w.commit)
	if !(oneMore || oneLess) || at > w.commit || committed.Term != w.hard.Term {
		return 0, api.ErrMember
	}
	i := w.last() + 1
	w.append(api.Entry{Index: i, Term: w.hard.Term, Kind: api.Config, Data: rlog.PutMembers(l)})
	for _, m := range more {
		w.next[m], w.match[m] = i, 0
	}
	w.commitRule()
	w.tellAll()
	return i, api.OK
}

func (w *byWords) compact(i uint64, data []byte) api.Errno {
	if i > w.given || i < w.first() || i > w.last() {
		return api.ErrRange
	}
	e, _ := w.at(i)
	upTo := w.log[:i-w.snap.Index]
	members, _ := membersOf(w.snap, upTo)
	w.log = slices.Clone(w.log[len(upTo):])
	w.snap = api.Snap{Index: i, Term: e.Term, Members: members, Data: data}
	w.newSnap = true
	return api.OK
}

func (w *byWords) records() [][]byte {
	var l [][]byte
	if w.newSnap {
		l = append(l, rlog.PutSnap(w.snap))
	}
	if w.hard != w.told {
		l = append(l, rlog.PutHard(w.hard))
	}
	for _, e := range w.log {
		if w.newFrom > 0 && e.Index >= w.newFrom {
			l = append(l, rlog.PutEntry(e))
		}
	}
	w.newSnap, w.newFrom, w.told = false, 0, w.hard
	return l
}

func (w *byWords) outbox() []api.Msg {
	l := w.out
	w.out = nil
	return l
}

func (w *byWords) committed(most int) []api.Entry {
	var l []api.Entry
	for _, e := range w.log {
		if len(l) < most && !w.came && e.Index > w.given && e.Index <= w.commit {
			l = append(l, e)
		}
	}
	w.given += uint64(len(l))
	return l
}

func (w *byWords) restored() (api.Snap, bool) {
	if !w.came {
		return api.Snap{}, false
	}
	w.came = false
	w.given = w.snap.Index
	return w.snap, true
}

// sameEntries, sameSnap and sameMsg answer whether two are the same; a nil list
// is an empty one.
func sameEntries(a, b []api.Entry) bool {
	return slices.EqualFunc(a, b, func(a, b api.Entry) bool {
		return a.Index == b.Index && a.Term == b.Term && a.Kind == b.Kind && bytes.Equal(a.Data, b.Data)
	})
}

func sameSnap(a, b api.Snap) bool {
	return a.Index == b.Index && a.Term == b.Term && slices.Equal(a.Members, b.Members) && bytes.Equal(a.Data, b.Data)
}

func sameMsg(a, b api.Msg) bool {
	if !sameEntries(a.Entries, b.Entries) || !sameSnap(a.Snap, b.Snap) {
		return false
	}
	return plain(a) == plain(b)
}

// plain answers the fields of a message that are no lists.
func plain(m api.Msg) [9]uint64 {
	reject := uint64(0)
	if m.Reject {
		reject = 1
	}
	return [9]uint64{uint64(m.Kind), m.From, m.To, m.Term, m.Index, m.LogTerm, m.Commit, m.Hint, reject}
}

// holds holds a node to the words, in all that it tells without being changed.
func (w *byWords) holds(n *Node) string {
	role, term, leader, commit := n.State()
	if role != w.role || term != w.hard.Term || leader != w.leader || commit != w.commit {
		return fmt.Sprintf("State %d, %d, %d, %d; want %d, %d, %d, %d", role, term, leader, commit, w.role, w.hard.Term, w.leader, w.commit)
	}
	if n.Hard() != w.hard {
		return fmt.Sprintf("Hard %v, want %v", n.Hard(), w.hard)
	}
	l := n.Log()
	if !sameSnap(l.Snap(), w.snap) {
		return fmt.Sprintf("snapshot %v, want %v", l.Snap(), w.snap)
	}
	if got := l.Entries(l.First(), math.MaxInt); !sameEntries(got, w.log) {
		return fmt.Sprintf("entries %v, want %v", got, w.log)
	}
	return ""
}

// pick answers one of those that are given.
func pick[T any](r *rand.Rand, l ...T) T { return l[r.Intn(len(l))] }

// drawn is what a run draws, around what a node is at.
type drawn struct {
	*rand.Rand
	w *byWords
}

func (d drawn) index() uint64 {
	w := d.w
	i := pick(d.Rand, 0, 1, w.snap.Index-1, w.snap.Index, w.snap.Index+1, w.commit-1, w.commit, w.commit+1, w.last()-1, w.last(), w.last(), w.last(), w.last()+1, w.last()+2, w.given, w.given+1, math.MaxUint64, 1<<62)
	if d.Intn(3) == 0 {
		i = w.snap.Index + uint64(d.Intn(len(w.log)+2))
	}
	return i
}

func (d drawn) term() uint64 {
	own := d.w.hard.Term
	return pick(d.Rand, own, own, own, own-min(own, 1), own+1, 0, 1)
}

// termAt answers mostly the term that stands there.
func (d drawn) termAt(i uint64) uint64 {
	if e, ok := d.w.at(i); ok && d.Intn(8) > 0 {
		return e.Term
	}
	return d.term()
}

func (d drawn) members() []uint64 {
	var l []uint64
	for m := uint64(1); m <= 5; m++ {
		if m == d.w.id && d.Intn(6) > 0 || d.Intn(2) == 0 {
			l = append(l, m)
		}
	}
	if d.Intn(3) == 0 {
		d.Shuffle(len(l), func(i, j int) { l[i], l[j] = l[j], l[i] })
	}
	return l
}

// next answers mostly the members, and one more or less.
func (d drawn) next() []uint64 {
	l, _ := d.w.members()
	l = slices.Clone(l)
	x := uint64(d.Intn(6))
	if i := slices.Index(l, x); i >= 0 {
		l = slices.Delete(l, i, i+1)
	} else {
		l = append(l, x)
	}
	return pick(d.Rand, l, l, l, l, append(l, 6), append(l, 1), d.members(), nil, []uint64{1, 2, 3, 4, 5, 6, 7, 8, 9, 10})
}

func (d drawn) data() []byte {
	return bytes.Repeat([]byte{byte('a' + d.Intn(26))}, d.Intn(4))
}

func (d drawn) entry(i uint64) api.Entry {
	e := api.Entry{Index: i, Term: d.termAt(i), Data: d.data()}
	switch d.Intn(8) {
	case 0:
		e.Kind, e.Data = api.Config, rlog.PutMembers(d.members())
	case 1:
		e.Kind = pick(d.Rand, api.Config, 2, -1)
	}
	if d.Intn(40) == 0 {
		e.Index += pick[uint64](d.Rand, 1, 2, math.MaxUint64)
	}
	return e
}

func (d drawn) snap() api.Snap {
	s := api.Snap{Index: d.index(), Members: d.members(), Data: d.data()}
	// A snapshot far beyond all that may come leaves nothing to be drawn.
	if s.Index > d.w.last()+2 && d.Intn(50) > 0 {
		s.Index = d.w.last()
	}
	s.Term = d.termAt(s.Index)
	if d.Intn(12) == 0 {
		s.Members = append(s.Members, pick[uint64](d.Rand, 0, 3, 3))
	}
	return s
}

func (d drawn) msg() api.Msg {
	m := api.Msg{Kind: 1 + d.Intn(5), From: uint64(d.Intn(6)), To: d.w.id, Term: d.w.hard.Term, Index: d.index(), Commit: d.index(), Hint: d.index(), Reject: d.Intn(4) == 0}
	m.LogTerm = d.termAt(m.Index)
	if d.Intn(25) == 0 {
		m.Term = d.term()
	}
	if d.Intn(40) == 0 {
		m.Kind = pick(d.Rand, 0, 6, -1)
	}
	if d.Intn(40) == 0 {
		m.To = uint64(d.Intn(6))
	}
	if m.Kind == api.AskAppend || d.Intn(20) == 0 {
		for i := range d.Intn(5) {
			m.Entries = append(m.Entries, d.entry(m.Index+1+uint64(i)))
		}
	}
	if m.Kind == api.AskSnap || d.Intn(20) == 0 {
		m.Snap = d.snap()
	}
	return m
}

// do does something to both, and tells what it was, and where they answered
// otherwise.
func (d drawn) do(n *Node) (what, wrong string) {
	switch k := d.Intn(40); {
	case k < 12:
		draw := d.Uint64()
		n.Tick(draw)
		d.w.tick(draw)
		return fmt.Sprintf("Tick(%d)", draw), ""
	case k < 30:
		m := d.msg()
		n.Step(m)
		d.w.step(m)
		return fmt.Sprintf("Step(%+v)", m), ""
	case k < 32:
		data := d.data()
		if d.Intn(30) == 0 {
			data = make([]byte, 4096+d.Intn(2))
		}
		i, e := n.Propose(data)
		wi, we := d.w.propose(data)
		return "Propose", otherwise(i == wi && e == we, i, e, wi, we)
	case k < 35:
		l := d.next()
		i, e := n.Change(l)
		wi, we := d.w.change(l)
		return fmt.Sprintf("Change(%v)", l), otherwise(i == wi && e == we, i, e, wi, we)
	case k < 36:
		i, data := d.index(), d.data()
		e, we := n.Compact(i, data), d.w.compact(i, data)
		return fmt.Sprintf("Compact(%d)", i), otherwise(e == we, e, we)
	}
	return d.take(n)
}

// take takes out what may be taken out.
func (d drawn) take(n *Node) (what, wrong string) {
	switch d.Intn(4) {
	case 0:
		l, wl := n.Records(), d.w.records()
		return "Records", otherwise(slices.EqualFunc(l, wl, bytes.Equal), l, wl)
	case 1:
		l, wl := n.Outbox(), d.w.outbox()
		return "Outbox", otherwise(slices.EqualFunc(l, wl, sameMsg), l, wl)
	case 2:
		most := pick(d.Rand, -1, 0, 1, 2, 3, math.MaxInt, math.MinInt)
		l, wl := n.Committed(most), d.w.committed(most)
		return fmt.Sprintf("Committed(%d)", most), otherwise(sameEntries(l, wl), l, wl)
	}
	s, ok := n.Restored()
	ws, wok := d.w.restored()
	return "Restored", otherwise(ok == wok && sameSnap(s, ws), s, ok, ws, wok)
}

func otherwise(same bool, got ...any) string {
	if same {
		return ""
	}
	return fmt.Sprintf("answered, and should: %+v", got)
}

// P9.1 to P9.8: in long drawn runs a node is as the words say.
func TestDrawnRuns(t *testing.T) {
	led := 0
	for seed := range int64(600) {
		r := rand.New(rand.NewSource(seed))
		id := 1 + uint64(r.Intn(3))
		s := api.Snap{Members: pick(r, []uint64{1}, []uint64{2, 1}, []uint64{1, 2, 3}, []uint64{4, 3, 2, 1}, nil, []uint64{1, 2, 3, 4, 5})}
		if r.Intn(2) == 0 {
			s.Index, s.Term, s.Data = uint64(r.Intn(4)), uint64(r.Intn(3)), []byte("s")
		}
		var l []api.Entry
		for i := range uint64(r.Intn(5)) {
			l = append(l, api.Entry{Index: s.Index + 1 + i, Term: s.Term + i/2})
		}
		h := api.Hard{Term: s.Term + uint64(len(l))/2, Vote: uint64(r.Intn(3))}
		log := rlog.New(s)
		log.Append(l...)
		log.Clean()
		n, d := New(id, h, log), drawn{r, ofWords(id, h, s, l)}
		var done []string
		for range 400 {
			what, wrong := d.do(n)
			done = append(done, what)
			if wrong == "" {
				wrong = d.w.holds(n)
			}
			if wrong != "" {
				t.Fatalf("seed %d, behind %v: %s", seed, done[max(0, len(done)-12):], wrong)
			}
			if d.w.role == Leader {
				led++
			}
		}
	}
	if led < 10000 {
		t.Errorf("the runs have few leaders: %d steps", led)
	}
}
