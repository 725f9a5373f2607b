package tongue

import (
	"math/bits"

	"tokenhall/api"
)

const wordBits = 64

// marks is a set of marks, a bit for each by its number in a space.
type marks [(api.MaxStates + wordBits - 1) / wordBits]uint64

// only is the set of mark m alone.
func only(m int) marks {
	var s marks
	s[m/wordBits] = 1 << (m % wordBits)
	return s
}

func (s marks) or(other marks) marks {
	for k, bunch := range other {
		s[k] |= bunch
	}
	return s
}

func (s marks) and(other marks) marks {
	for k, bunch := range other {
		s[k] &= bunch
	}
	return s
}

func (s marks) empty() bool {
	return s == marks{}
}

// each is ranged over: the numbers of the marks, rising.
func (s marks) each(yield func(m int) bool) {
	for k, bunch := range s {
		for ; bunch != 0; bunch &= bunch - 1 {
			if !yield(k*wordBits + bits.TrailingZeros64(bunch)) {
				return
			}
		}
	}
}
