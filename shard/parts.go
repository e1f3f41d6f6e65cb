package shard

import (
	"bytes"

	"plenum/api"
	"plenum/okey"
)

// Pick answers in which part the key is: how many of bounds aren't above it
// (P16.2).
func Pick(bounds [][]byte, key []byte) int {
	return below(bounds, next(key))
}

// Parts answers the numbers of the parts that have keys of the span, rising
// (P16.2).
func Parts(bounds [][]byte, s api.Span) []int {
	if !okey.Within(s.Lo, s.Lo, s.Hi) {
		return nil
	}
	last := len(bounds)
	if len(s.Hi) > 0 {
		last = below(bounds, s.Hi)
	}
	var l []int
	for part := Pick(bounds, s.Lo); part <= last; part++ {
		l = append(l, part)
	}
	return l
}

// below answers how many of bounds are below the key: they aren't above the last
// key below it, either.
func below(bounds [][]byte, key []byte) int {
	n := 0
	for _, b := range bounds {
		if bytes.Compare(b, key) < 0 {
			n++
		}
	}
	return n
}
