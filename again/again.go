// Package again keeps what a machine's clients were answered last. A client that
// doesn't know whether its last command was done tells it again, and is answered
// the same: it is done once (P15.1, P16.1).
package again

import (
	"plenum/api"
	"plenum/twin"
)

// Answers is what each client was answered last. The zero value is of clients
// that told nothing yet.
type Answers struct {
	last map[uint64]answer
}

// answer is what a client's last command came to.
type answer struct {
	seq    uint64
	result api.Result
}

// Do does a command by do, and keeps what it comes to as the client's last. But
// what is told again is answered as it was, what is older than the last is
// ErrRange, and of client 0 nothing is kept.
func (a *Answers) Do(c api.Command, do func(api.Command) api.Result) api.Result {
	if c.Client == 0 {
		return do(c)
	}
	last, is := a.last[c.Client]
	switch {
	case is && last.seq == c.Seq:
		return twin.Result(last.result)
	case is && last.seq > c.Seq:
		return api.Result{Err: api.ErrRange}
	}
	r := do(c)
	if a.last == nil {
		a.last = map[uint64]answer{}
	}
	a.last[c.Client] = answer{seq: c.Seq, result: twin.Result(r)}
	return r
}
