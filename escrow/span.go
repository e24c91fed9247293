package escrow

import (
	"slices"

	"gauger/api"
	"gauger/wide"
)

// span is numbers from the least to the greatest one, both modulo 2^128.
type span struct {
	least, greatest api.Wide
	beyond          bool // one of the two is beyond 128 bits
}

// widen has a transaction, whose net is in all of the numbers, come to nothing, or to one of its saved nets, as well.
func (s *span) widen(net api.Wide, saved []api.Wide) {
	ways := append([]api.Wide{{}, net}, saved...)
	least := wide.Sub(s.least, wide.Sub(net, slices.MinFunc(ways, wide.Compare)))
	greatest := wide.Add(s.greatest, wide.Sub(slices.MaxFunc(ways, wide.Compare), net))
	// The net is one of the ways, so that the least one never rises, and the greatest one never falls, unless they go round.
	if wide.Compare(least, s.least) > 0 || wide.Compare(greatest, s.greatest) < 0 {
		s.beyond = true
	}
	s.least, s.greatest = least, greatest
}

// keep tells whether all of the numbers have 64 bits with a sign.
func (s span) keep() bool {
	_, low := wide.Int(s.least)
	_, high := wide.Int(s.greatest)
	return low && high && !s.beyond
}
