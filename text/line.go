package text

import (
	"strconv"
	"strings"

	"tokenhall/api"
)

// first answers how many places a net has whose text begins with this line.
func first(line string) (int, bool) {
	places, ok := strings.CutPrefix(line, begins)
	if !ok {
		return 0, false
	}
	return number(places, 0, api.MaxPlaces)
}

// tran answers the transition of a net of so many places that this line tells.
func tran(line string, places int) (api.Tran, bool) {
	head, lists, _ := strings.Cut(line, takes)
	before, behind, found := strings.Cut(lists, puts)
	label := strings.Index(letters, head)
	if len(head) != 1 || label < 0 || !found {
		return api.Tran{}, false
	}
	pre, ok := weights(before, places)
	if !ok {
		return api.Tran{}, false
	}
	post, ok := weights(behind, places)
	if !ok {
		return api.Tran{}, false
	}
	return api.Tran{Label: label, Pre: pre, Post: post}, true
}

// weights answers the list that is written so, place by place.
func weights(list string, places int) ([]int, bool) {
	l := make([]int, places)
	if list == "" {
		return l, true
	}
	// A blank is ahead of each one: what is ahead of the first blank must be nothing.
	ahead, rest, more := strings.Cut(list, blank)
	if ahead != "" {
		return nil, false
	}
	for least := 0; more; {
		var one string
		one, rest, more = strings.Cut(rest, blank)
		p, w, ok := weight(one, least, places)
		if !ok {
			return nil, false
		}
		l[p] = w
		least = p + 1
	}
	return l, true
}

// weight answers a place, from least on, and its weight.
func weight(s string, least, places int) (p, w int, ok bool) {
	many, place, found := strings.Cut(s, times)
	if !found {
		p, ok = number(s, least, places-1)
		return p, 1, ok
	}
	// A weight of 1 is not written.
	w, ok = number(many, 2, api.MaxWeight)
	if !ok {
		return 0, 0, false
	}
	p, ok = number(place, least, places-1)
	return p, w, ok
}

// number answers which number from least to most is written so: each is written in one way alone, so a needless 0 or a sign is none.
func number(digits string, least, most int) (int, bool) {
	for x := least; x <= most; x++ {
		if strconv.Itoa(x) == digits {
			return x, true
		}
	}
	return 0, false
}
