package reduce

import (
	"slices"

	"tokenhall/api"
)

// row has a weight for each place, and 0 behind the last one: rows of one net are the same just if all their weights are.
type row [api.MaxPlaces]int

type tran struct {
	label     int
	pre, post row
}

// smaller is a net that becomes smaller step by step.
type smaller struct {
	places, begin, end int
	trans              []tran
}

// begun answers n, which must not be wrong, ahead of the first step.
func begun(n api.Net, i, o int) *smaller {
	s := &smaller{places: n.Places, begin: i, end: o}
	for _, t := range n.Trans {
		own := tran{label: t.Label}
		copy(own.pre[:], t.Pre)
		copy(own.post[:], t.Post)
		s.trans = append(s.trans, own)
	}
	return s
}

// net answers what is left.
func (s *smaller) net() api.Net {
	n := api.Net{Places: s.places}
	for _, t := range s.trans {
		n.Trans = append(n.Trans, api.Tran{Label: t.label, Pre: slices.Clone(t.pre[:s.places]), Post: slices.Clone(t.post[:s.places])})
	}
	return n
}

// inner tells whether place p is neither the beginning nor the end.
func (s *smaller) inner(p int) bool {
	return p != s.begin && p != s.end
}

func (s *smaller) dropTran(t int) {
	s.trans = slices.Delete(s.trans, t, t+1)
}

// dropPlace takes out p, which must be an inner place.
func (s *smaller) dropPlace(p int) {
	for t := range s.trans {
		s.trans[t].pre = s.trans[t].pre.without(p)
		s.trans[t].post = s.trans[t].post.without(p)
	}
	s.places--
	if p < s.begin {
		s.begin--
	}
	if p < s.end {
		s.end--
	}
}

// without answers r, where the places behind p have one less.
func (r row) without(p int) row {
	copy(r[p:], r[p+1:])
	r[len(r)-1] = 0
	return r
}

func (r row) plus(other row) row {
	for p, weight := range other {
		r[p] += weight
	}
	return r
}
