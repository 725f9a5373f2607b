package tongue

import (
	"slices"

	"tokenhall/api"
	"tokenhall/mark"
	"tokenhall/reach"
	"tokenhall/shape"
)

// never is more letters than any shortest way has: it comes to no mark twice, so it has fewer firings than there are marks.
const never = api.MaxStates

// letters has for each letter the marks where one can be behind it; at 0 there are none, for 0 is no letter.
type letters [api.MaxLabel + 1]marks

// talk is all that can be seen of a net, by the numbers of its marks.
type talk struct {
	begin marks     // where one can be ahead of the first letter
	next  []letters // behind each mark
	least []int     // how many letters are seen from each mark to the end, at least
}

// heard answers what can be seen of n, or what is wrong with it.
func heard(n api.Net, i, o int) (*talk, api.Errno) {
	if err := shape.Wrong(n, i, o); err != api.OK {
		return nil, err
	}
	s, err := reach.Graph(n, shape.Start(n, i), api.MaxStates)
	if err != api.OK {
		return nil, err
	}
	label := func(a api.Arc) int { return n.Trans[a.Tran].Label }
	far := unseen(s, label)
	t := &talk{begin: far[0], next: make([]letters, len(s.Marks)), least: leastTo(s, shape.Start(n, o), label)}
	for _, a := range s.Arcs {
		if letter := label(a); letter > 0 {
			// What nobody sees is done right behind a letter: then it need not be done ahead of the next one.
			behind := &t.next[a.From][letter]
			*behind = behind.or(far[a.To])
		}
	}
	return t, api.OK
}

// unseen answers for each mark those where one comes from it without letters, itself with them.
func unseen(s api.Space, label func(a api.Arc) int) []marks {
	far := make([]marks, len(s.Marks))
	for m := range far {
		far[m] = only(m)
	}
	settle(s.Arcs, func(a api.Arc) bool {
		was := far[a.From]
		if label(a) == 0 {
			far[a.From] = was.or(far[a.To])
		}
		return far[a.From] != was
	})
	return far
}

// leastTo answers for each mark how many letters there are to end, at least; never, if end is not come to.
func leastTo(s api.Space, end []int, label func(a api.Arc) int) []int {
	least := make([]int, len(s.Marks))
	for m, tokens := range s.Marks {
		if !mark.Same(tokens, end) {
			least[m] = never
		}
	}
	settle(s.Arcs, func(a api.Arc) bool {
		was := least[a.From]
		least[a.From] = min(was, least[a.To]+min(label(a), 1))
		return least[a.From] != was
	})
	return least
}

// settle does change for all arcs, again and again, until it changes nothing any more.
func settle(arcs []api.Arc, change func(a api.Arc) bool) {
	for more := true; more; {
		more = false
		// Most arcs lead to marks that were found later: backward, few rounds are needed.
		for _, a := range slices.Backward(arcs) {
			if change(a) {
				more = true
			}
		}
	}
}

// behind answers where one can be behind a letter that is seen at one of these marks; what is no letter is not seen.
func (t *talk) behind(at marks, letter int) marks {
	var next marks
	if letter < 1 || letter > api.MaxLabel {
		return next
	}
	for m := range at.each {
		next = next.or(t.next[m][letter])
	}
	return next
}

// near answers the marks from which the end is come to by room letters at most, where room is less than never.
func (t *talk) near(room int) marks {
	var all marks
	for m, least := range t.least {
		if least <= room {
			all = all.or(only(m))
		}
	}
	return all
}

// mayEnd tells whether the end is come to from one of these marks without letters.
func (t *talk) mayEnd(at marks) bool {
	for m := range at.each {
		if t.least[m] == 0 {
			return true
		}
	}
	return false
}
