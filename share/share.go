// Package share is layer 2: a whole in parts. See shared/doc/02-share.md.
package share

import (
	"cmp"
	"math/bits"
	"slices"

	"moiety/api"
	"moiety/num"
)

// Split is whole in parts, one for each weight, in order, by the largest remainders. ErrFree: there is no weight; ErrSize: there are more than MaxLeaves; ErrOver: their sum does not fit in 64 bits without a sign; ErrZero: it is 0.
func Split(whole uint64, weights ...uint64) ([]uint64, api.Errno) {
	if why := countable(len(weights)); why != api.OK {
		return nil, why
	}
	all, why := total(weights)
	if why != api.OK {
		return nil, why
	}
	parts, rests, left := roundedDown(whole, weights, all)
	// All fractions together are what is left, and each is below 1: so no unit goes to a fraction of 0.
	for _, i := range byLargest(rests)[:left] {
		parts[i]++
	}
	return parts, api.OK
}

// Even is whole in n parts that are alike, by the largest remainders: ErrFree of n below 1, ErrSize of n above MaxLeaves.
func Even(whole uint64, n int) ([]uint64, api.Errno) {
	// Asked ahead of making the weights: n may be any number.
	if why := countable(n); why != api.OK {
		return nil, why
	}
	ones := make([]uint64, n)
	for i := range ones {
		ones[i] = 1
	}
	return Split(whole, ones...)
}

// Check tells whether Split of whole by weights is just parts.
func Check(whole uint64, weights, parts []uint64) bool {
	right, why := Split(whole, weights...)
	return why == api.OK && slices.Equal(right, parts)
}

// countable tells what is wrong with n weights.
func countable(n int) api.Errno {
	if n < 1 {
		return api.ErrFree
	}
	if n > api.MaxLeaves {
		return api.ErrSize
	}
	return api.OK
}

// total is the sum of all weights: ErrOver, if it does not fit; ErrZero, if it is 0.
func total(weights []uint64) (uint64, api.Errno) {
	all := uint64(0)
	for _, w := range weights {
		sum, carry := bits.Add64(all, w, 0)
		if carry != 0 {
			return 0, api.ErrOver
		}
		all = sum
	}
	if all == 0 {
		return 0, api.ErrZero
	}
	return all, api.OK
}

// roundedDown is each weight's quota of whole, rounded down, what it is rounded by (in parts of all), and what is then left of whole.
func roundedDown(whole uint64, weights []uint64, all uint64) (parts, rests []uint64, left uint64) {
	parts = make([]uint64, len(weights))
	rests = make([]uint64, len(weights))
	left = whole
	for i, w := range weights {
		// No error can come of this: all is not 0, and as no weight is above it, no quotient is above whole.
		parts[i], rests[i], _ = num.MulDiv(whole, w, all)
		left -= parts[i]
	}
	return parts, rests, left
}

// byLargest is the places of rests, those of the largest first, of alike ones the first first.
func byLargest(rests []uint64) []int {
	places := make([]int, len(rests))
	for i := range places {
		places[i] = i
	}
	slices.SortStableFunc(places, func(i, k int) int {
		return cmp.Compare(rests[k], rests[i])
	})
	return places
}
