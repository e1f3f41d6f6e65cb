package lock

import (
	"bytes"

	"plenum/api"
	"plenum/okey"
)

// fit holds each mode against each: which two transactions may hold at once.
// No mode is 0, so nothing fits there.
var fit = [api.X + 1][api.X + 1]bool{
	api.IS: {api.IS: true, api.IX: true, api.S: true},
	api.IX: {api.IS: true, api.IX: true},
	api.S:  {api.IS: true, api.S: true},
}

// Fits answers whether two transactions may hold such modes at once; what is no
// mode fits none (P14.1).
func Fits(a, b int) bool {
	return isMode(a) && isMode(b) && fit[a][b]
}

// Apart answers whether two locks never meet: by their Levels, by their keys, or
// since they are one transaction's (P14.1).
func Apart(a, b api.Lock) bool {
	return a.Level != b.Level || !meet(a, b) || a.Txn == b.Txn
}

// Covers answers whether whoever has a has b, too (P14.1).
func Covers(a, b api.Lock) bool {
	return a.Txn == b.Txn && a.Level == b.Level && encloses(a, b) && serves(a.Mode, b.Mode)
}

// isMode answers whether the number is one of the four.
func isMode(mode int) bool {
	return api.IS <= mode && mode <= api.X
}

// serves answers whether a mode is as good as another one. It is asked of
// numbers that are no modes, too: each is as good as itself, and X as all.
func serves(a, b int) bool {
	switch a {
	case b, api.X:
		return true
	case api.S, api.IX:
		return b == api.IS
	}
	return false
}

// meet answers whether each one's Hi is above the other's Lo.
func meet(a, b api.Lock) bool {
	return above(a.Hi, b.Lo) && above(b.Hi, a.Lo)
}

// encloses answers whether b's keys are among a's: a's Lo isn't above b's, a's
// Hi not below it.
func encloses(a, b api.Lock) bool {
	if bytes.Compare(a.Lo, b.Lo) > 0 {
		return false
	}
	return len(a.Hi) == 0 || len(b.Hi) > 0 && bytes.Compare(a.Hi, b.Hi) >= 0
}

// above answers whether hi, as a bound, is above lo: nothing is above all.
func above(hi, lo []byte) bool {
	return okey.Within(lo, nil, hi)
}
