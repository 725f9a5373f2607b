// Package mark: tokens at places; see doc/01-mark.md.
package mark

import "tokenhall/api"

// Right tells whether each number of m may stand at a place.
func Right(m []int) bool {
	return everywhere(m, nil, func(x, _ int) bool { return 0 <= x && x <= api.MaxTokens })
}

// Covers tells whether a has at each place at least what b has, right or not.
func Covers(a, b []int) bool {
	return everywhere(a, b, func(x, y int) bool { return x >= y })
}

// Same tells whether a and b differ in nothing but noughts at their ends.
func Same(a, b []int) bool {
	return Covers(a, b) && Covers(b, a)
}

// Plus answers a and b together.
func Plus(a, b []int) ([]int, api.Errno) {
	if !Right(a) || !Right(b) {
		return nil, api.ErrRange
	}
	// Right marks are far from where an int goes round: the sum can be judged once it is made.
	sum := joined(a, b, func(x, y int) int { return x + y })
	if !Right(sum) {
		return nil, api.ErrFull
	}
	return sum, api.OK
}

// Minus answers what a has more than b.
func Minus(a, b []int) ([]int, api.Errno) {
	if !Right(a) || !Right(b) {
		return nil, api.ErrRange
	}
	if !Covers(a, b) {
		return nil, api.ErrNone
	}
	return joined(a, b, func(x, y int) int { return x - y }), api.OK
}

// everywhere goes to the end of the longer one: what lies behind the end of a mark counts as well.
func everywhere(a, b []int, holds func(x, y int) bool) bool {
	for p := range max(len(a), len(b)) {
		if !holds(at(a, p), at(b, p)) {
			return false
		}
	}
	return true
}

// joined makes its list anew, whatever it is of: an answer is the caller's own.
func joined(a, b []int, join func(x, y int) int) []int {
	out := make([]int, max(len(a), len(b)))
	for p := range out {
		out[p] = join(at(a, p), at(b, p))
	}
	return out
}

func at(m []int, p int) int {
	if p < len(m) {
		return m[p]
	}
	return 0
}
