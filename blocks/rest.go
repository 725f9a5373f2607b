package blocks

import (
	"slices"

	"tokenhall/api"
)

// done is the number of the rest whose one word has no letters.
const done = 0

// again is a kind beside those of blocks: a Loop whose first part was just done. Its words: the one without letters; and one of the second part, then one of the Loop.
const again = -1

// rest is what is left of a block behind the beginning of a word, as a map's key: first and second are numbers of rests; but of a Step first is its Label.
type rest struct{ kind, first, second int }

// question asks what is left of a rest behind a letter.
type question struct{ rest, letter int }

// known is all rests that were come to, each once, by number.
type known struct {
	rests   []rest
	least   []int // how many letters each one's shortest word has
	number  map[rest]int
	answers map[question][]int
}

func newKnown() *known {
	k := &known{number: map[rest]int{}, answers: map[question][]int{}}
	k.of(rest{kind: api.Silent})
	return k
}

// of answers the number of r.
func (k *known) of(r rest) int {
	if at, found := k.number[r]; found {
		return at
	}
	at := len(k.rests)
	k.number[r] = at
	k.rests = append(k.rests, r)
	k.least = append(k.least, k.shortest(r))
	return at
}

func (k *known) shortest(r rest) int {
	switch r.kind {
	case api.Step:
		return 1
	case api.Seq, api.Both:
		return k.least[r.first] + k.least[r.second]
	case api.Choice:
		return min(k.least[r.first], k.least[r.second])
	case api.Loop:
		return k.least[r.first]
	}
	return 0
}

// block answers the number of all of b, which must not be wrong.
func (k *known) block(b api.Block) int {
	join := k.then
	switch b.Kind {
	case api.Silent:
		return done
	case api.Step:
		return k.of(rest{api.Step, b.Label, 0})
	case api.Loop:
		return k.of(rest{api.Loop, k.block(b.Kids[0]), k.block(b.Kids[1])})
	case api.Choice:
		join = k.either
	case api.Both:
		join = k.beside
	}
	last := len(b.Kids) - 1
	all := k.block(b.Kids[last])
	for _, kid := range slices.Backward(b.Kids[:last]) {
		all = join(k.block(kid), all)
	}
	return all
}

// then is a, and b behind it.
func (k *known) then(a, b int) int {
	if a == done {
		return b
	}
	if b == done {
		return a
	}
	return k.of(rest{api.Seq, a, b})
}

func (k *known) either(a, b int) int {
	if a == b {
		return a
	}
	return k.of(rest{api.Choice, min(a, b), max(a, b)})
}

// beside is a and b side by side: the parts of a Both stand in a row, by their numbers, so that whatever order they came in is one rest.
func (k *known) beside(a, b int) int {
	if a == done {
		return b
	}
	if b == done {
		return a
	}
	first, others := k.apart(a)
	if head, _ := k.apart(b); head < first {
		return k.beside(b, a)
	}
	return k.of(rest{api.Both, first, k.beside(others, b)})
}

// apart is the first part of a row, and the others.
func (k *known) apart(a int) (int, int) {
	if r := k.rests[a]; r.kind == api.Both {
		return r.first, r.second
	}
	return a, done
}

// after answers all that may be left of rest at behind letter; who asks must not change it.
func (k *known) after(at, letter int) []int {
	q := question{at, letter}
	if l, found := k.answers[q]; found {
		return l
	}
	l := k.work(at, letter)
	slices.Sort(l)
	l = slices.Compact(l)
	k.answers[q] = l
	return l
}

// work ends, for it asks only for parts of rest at.
func (k *known) work(at, letter int) []int {
	var l []int
	r := k.rests[at]
	add := func(part int, with func(left int) int) {
		for _, left := range k.after(part, letter) {
			l = append(l, with(left))
		}
	}
	alone := func(left int) int { return left }
	thenLoop := func(left int) int { return k.then(left, k.of(rest{api.Loop, r.first, r.second})) }
	thenAgain := func(left int) int { return k.then(left, k.of(rest{again, r.first, r.second})) }
	switch r.kind {
	case api.Step:
		if r.first == letter {
			l = append(l, done)
		}
	case api.Seq:
		add(r.first, func(left int) int { return k.then(left, r.second) })
		if k.least[r.first] == 0 {
			add(r.second, alone)
		}
	case api.Choice:
		add(r.first, alone)
		add(r.second, alone)
	case api.Both:
		add(r.first, func(left int) int { return k.beside(left, r.second) })
		add(r.second, func(left int) int { return k.beside(r.first, left) })
	case api.Loop:
		add(r.first, thenAgain)
		if k.least[r.first] == 0 {
			add(r.second, thenLoop)
		}
	case again:
		add(r.second, thenLoop)
		if k.least[r.second] == 0 {
			add(r.first, thenAgain)
		}
	}
	return l
}

// behind answers all that may be left of one of these behind letter, if it can be done by room letters.
func (k *known) behind(these []int, letter, room int) []int {
	var l []int
	for _, at := range these {
		for _, left := range k.after(at, letter) {
			if k.least[left] <= room {
				l = append(l, left)
			}
		}
	}
	slices.Sort(l)
	return slices.Compact(l)
}

// mayEnd tells whether one of these has the word without letters.
func (k *known) mayEnd(these []int) bool {
	return slices.ContainsFunc(these, func(at int) bool { return k.least[at] == 0 })
}
