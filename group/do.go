package group

import (
	"slices"

	"plenum/api"
)

// Do lets something happen, by its Kind, and answers the index of the entry that
// was appended by it, 0, if none was. ErrRange for a Kind that is none; ErrNone,
// if there is no such node, or it is down (of ActStart: up) (P11.3).
func (g *Group) Do(a api.Act) (uint64, api.Errno) {
	g = g.orEmpty()
	switch a.Kind {
	case api.ActDeliver:
		return 0, g.deliver()
	case api.ActTime:
		g.lines.Tick()
	case api.ActCut, api.ActMend:
		g.lines.Cut(a.Node, a.Other, a.Kind == api.ActCut)
	case api.ActTick, api.ActPropose, api.ActCrash, api.ActStart, api.ActAdd, api.ActRemove, api.ActCompact:
		p := g.nodes[a.Node]
		if p == nil || p.up() == (a.Kind == api.ActStart) {
			return 0, api.ErrNone
		}
		return g.doAt(p, a)
	default:
		return 0, api.ErrRange
	}
	return 0, api.OK
}

// deliver lets the message that is due first arrive; ErrNone, if there is none.
// That the node it goes to falls by it is no error: nobody asked that node for
// anything.
func (g *Group) deliver() api.Errno {
	m, due := g.lines.Next()
	if !due {
		return api.ErrNone
	}
	if p := g.nodes[m.To]; p.up() {
		p.node.Step(m)
		g.endTurn(p)
	}
	return api.OK
}

// doAt lets something happen to a node, and ends its turn.
func (g *Group) doAt(p *place, a api.Act) (uint64, api.Errno) {
	var index uint64
	e := api.OK
	switch a.Kind {
	case api.ActTick:
		p.node.Tick(a.Draw)
	case api.ActPropose:
		index, e = p.propose(a.Data)
	case api.ActCrash:
		p.crashProposing(a.Keep, a.Data)
	case api.ActStart:
		e = p.start()
	case api.ActAdd, api.ActRemove:
		index, e = g.change(p, a)
	case api.ActCompact:
		e = p.compact()
	}
	if e == api.OK && p.up() {
		e = g.endTurn(p)
	}
	if e != api.OK {
		return 0, e
	}
	return index, api.OK
}

// endTurn lets a node remember what it must ahead of all that it sends, send,
// and apply. If it can't remember, it is down, and what it would send is lost
// (P11.2).
func (g *Group) endTurn(p *place) api.Errno {
	if e := p.remember(); e != api.OK {
		p.crash(0)
		return e
	}
	g.lines.Send(p.node.Outbox()...)
	p.apply()
	return api.OK
}

// change changes a node's members by one, Other. With ActAdd one that never was
// is there, and up, also where the Change is refused; ErrRange, if it can't be
// (P11.3).
func (g *Group) change(p *place, a api.Act) (uint64, api.Errno) {
	_, was := g.nodes[a.Other]
	comes := a.Kind == api.ActAdd && !was
	if a.Other == 0 || comes && len(g.nodes) >= mostNodes {
		return 0, api.ErrRange
	}
	if comes {
		// No error: a disk that had room for a snapshot with members has some for
		// one without.
		g.add(a.Other, api.Snap{})
	}
	members, _ := p.node.Log().Members()
	members = slices.DeleteFunc(members, func(m uint64) bool { return m == a.Other })
	if a.Kind == api.ActAdd {
		members = append(members, a.Other)
	}
	return p.node.Change(members)
}
