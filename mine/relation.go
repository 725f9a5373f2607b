package mine

import "tokenhall/api"

// relation tells of each label (the first index) which labels it is related to.
type relation [api.MaxLabel + 1][api.MaxLabel + 1]bool

// relationOf answers the relation that has those pairs alone.
func relationOf(pairs [][2]int) *relation {
	r := new(relation)
	for _, p := range pairs {
		r[p[0]][p[1]] = true
	}
	return r
}

// onward answers the relation that has the pairs of r, and those that come of going on from one to the next one.
func (r *relation) onward() *relation {
	far := *r
	for by := range far {
		for from := range far {
			if !far[from][by] {
				continue
			}
			for to, on := range far[by] {
				far[from][to] = far[from][to] || on
			}
		}
	}
	return &far
}

// either tells whether a and b are related one way at least.
func (r *relation) either(a, b int) bool { return r[a][b] || r[b][a] }

// alike tells whether they are related both ways, or neither way.
func (r *relation) alike(a, b int) bool { return r[a][b] == r[b][a] }

// notBoth tells whether one way at least they are not related.
func (r *relation) notBoth(a, b int) bool { return !r[a][b] || !r[b][a] }

// order sorts groups whose labels are alike by way of each other; r goes on from one to the next one. From group to group all labels are then related the same way, so that the first ones tell it.
func (r *relation) order(one, other []int) int {
	switch a, b := one[0], other[0]; {
	case r.alike(a, b):
		return 0
	case r[a][b]:
		return -1
	}
	return 1
}

// groups answers the parts of labels, which rise, that are linked, if only by way of others; by their least labels, which stand first in them.
func groups(labels []int, linked func(a, b int) bool) [][]int {
	var parts [][]int
	for len(labels) > 0 {
		part, rest := []int{labels[0]}, labels[1:]
		for k := 0; k < len(part); k++ {
			near, far := parted(rest, func(label int) bool { return linked(part[k], label) })
			part, rest = append(part, near...), far
		}
		parts, labels = append(parts, part), rest
	}
	return parts
}

// parted answers what of l holds, and what does not, each in its order.
func parted[T any](l []T, holds func(x T) bool) (those, others []T) {
	for _, x := range l {
		if holds(x) {
			those = append(those, x)
		} else {
			others = append(others, x)
		}
	}
	return those, others
}
