package reduce

import (
	"fmt"
	"math"
	"reflect"
	"slices"
	"testing"

	"tokenhall/api"
	"tokenhall/grow"
	"tokenhall/net"
	"tokenhall/reach"
	"tokenhall/shape"
	"tokenhall/sound"
)

// line is a transition by its label and places; a place that stands there twice has weight 2.
type line struct {
	label    int
	from, to []int
}

// at are places.
func at(places ...int) []int { return places }

// times is place p that often, and the other places.
func times(p, many int, others ...int) []int {
	return append(slices.Repeat([]int{p}, many), others...)
}

// made is the net of these lines.
func made(places int, lines ...line) api.Net {
	n := api.Net{Places: places}
	for _, l := range lines {
		tran := api.Tran{Label: l.label, Pre: make([]int, places), Post: make([]int, places)}
		for _, p := range l.from {
			tran.Pre[p]++
		}
		for _, p := range l.to {
			tran.Post[p]++
		}
		n.Trans = append(n.Trans, tran)
	}
	return n
}

func step(label int) api.Block           { return api.Block{Kind: api.Step, Label: label} }
func silent() api.Block                  { return api.Block{Kind: api.Silent} }
func seq(kids ...api.Block) api.Block    { return api.Block{Kind: api.Seq, Kids: kids} }
func choice(kids ...api.Block) api.Block { return api.Block{Kind: api.Choice, Kids: kids} }
func both(kids ...api.Block) api.Block   { return api.Block{Kind: api.Both, Kids: kids} }
func loop(kids ...api.Block) api.Block   { return api.Block{Kind: api.Loop, Kids: kids} }

// grown is the net of b, from place 0 to place 1.
func grown(b api.Block) api.Net {
	n, err := grow.Grow(b)
	if err != api.OK {
		panic(fmt.Sprint("no net comes of ", b, ": ", err))
	}
	return n
}

// long goes through all places that there may be, from place 0 to place 15.
func long() api.Net {
	var lines []line
	for p := range api.MaxPlaces - 1 {
		lines = append(lines, line{p + 1, at(p), at(p + 1)})
	}
	return made(api.MaxPlaces, lines...)
}

// wide has as many transitions as there may be, all of which do the same.
func wide() api.Net {
	var lines []line
	for label := range api.MaxTrans {
		lines = append(lines, line{label + 2, at(0), at(1)})
	}
	return made(2, lines...)
}

func TestReduce(t *testing.T) {
	one := func(label int) api.Net { return made(2, line{label, at(0), at(1)}) }
	for _, c := range []struct {
		n    api.Net
		i, o int
		want api.Net
		x    [3]int
		what string
	}{
		{one(1), 0, 1, one(1), [3]int{0, 1, 0}, "one transition"},
		{made(2, line{1, at(1), at(0)}), 1, 0, made(2, line{1, at(1), at(0)}), [3]int{1, 0, 0}, "from place 1 to place 0"},
		{grown(seq(step(5), step(6), choice(step(7), step(8)))), 0, 1, one(5), [3]int{0, 1, 3}, "the document's thirteenth example"},

		{made(2, line{7, at(0), at(1)}, line{0, at(0), at(1)}), 0, 1, one(7), [3]int{0, 1, 1}, "the later one goes, whatever the labels"},
		{made(2, line{0, at(0), at(1)}, line{7, at(0), at(1)}, line{7, at(0), at(1)}), 0, 1, one(0), [3]int{0, 1, 2}, "two later ones go"},
		{wide(), 0, 1, one(2), [3]int{0, 1, 23}, "all but the first one go"},
		{made(2, line{1, at(0), at(1, 1)}, line{2, at(0), at(1)}, line{3, at(0), at(1, 1)}, line{4, at(0), at(1)}), 0, 1,
			made(2, line{1, at(0), at(1, 1)}, line{2, at(0), at(1)}), [3]int{0, 1, 2}, "two pairs, one within the other"},
		{made(2, line{1, at(0), at(1)}, line{2, at(0), at(1, 1)}), 0, 1, made(2, line{1, at(0), at(1)}, line{2, at(0), at(1, 1)}), [3]int{0, 1, 0}, "the same Pre alone"},
		{made(2, line{1, at(0), at(1)}, line{2, at(0, 0), at(1)}), 0, 1, made(2, line{1, at(0), at(1)}, line{2, at(0, 0), at(1)}), [3]int{0, 1, 0}, "the same Post alone"},

		{made(4, line{1, at(0), at(2, 3)}, line{2, at(2, 3), at(1)}), 0, 1, one(1), [3]int{0, 1, 2}, "two places, then one between two"},
		{made(5, line{1, at(0), at(2, 2, 3, 3, 4, 4)}, line{2, at(2, 3, 4), at(1)}), 0, 1,
			made(3, line{1, at(0), at(2, 2)}, line{2, at(2), at(1)}), [3]int{0, 1, 2}, "three places with the same weights"},
		{made(4, line{1, at(0), at(2, 3, 3)}, line{2, at(2, 3), at(1)}), 0, 1,
			made(4, line{1, at(0), at(2, 3, 3)}, line{2, at(2, 3), at(1)}), [3]int{0, 1, 0}, "what is put at two places is not the same"},
		{made(4, line{1, at(0), at(2, 3)}, line{2, at(2, 3, 3), at(1)}), 0, 1,
			made(4, line{1, at(0), at(2, 3)}, line{2, at(2, 3, 3), at(1)}), [3]int{0, 1, 0}, "what is taken from two places is not the same"},
		{made(4, line{1, at(0), at(2, 3)}, line{2, at(2, 3), at(1)}, line{3, at(2), at(2)}), 0, 1,
			made(4, line{1, at(0), at(2, 3)}, line{2, at(2, 3), at(1)}, line{3, at(2), at(2)}), [3]int{0, 1, 0}, "one transition sees a difference"},
		{made(4, line{1, at(0), at(2, 3)}, line{2, at(2, 3), at(2, 3)}, line{3, at(2, 3), at(1)}), 0, 1,
			made(3, line{1, at(0), at(2)}, line{2, at(2), at(2)}, line{3, at(2), at(1)}), [3]int{0, 1, 1}, "two places, and no more"},

		{made(3, line{1, at(0), at(2)}, line{2, at(2), at(1)}), 0, 1, one(1), [3]int{0, 1, 1}, "one behind the other"},
		{made(3, line{2, at(2), at(1)}, line{1, at(0), at(2)}), 0, 1, one(1), [3]int{0, 1, 1}, "the one behind stands ahead"},
		{made(3, line{0, at(0), at(2)}, line{2, at(2), at(1)}), 0, 1, one(0), [3]int{0, 1, 1}, "the label of the one ahead stays, also 0"},
		{made(3, line{1, at(0), at(1, 2)}, line{2, at(2), at(1)}), 0, 1, made(2, line{1, at(0), at(1, 1)}), [3]int{0, 1, 1}, "both put at one place"},
		{made(3, line{1, at(0, 0), at(2)}, line{2, at(2), at(1)}), 0, 1, made(2, line{1, at(0, 0), at(1)}), [3]int{0, 1, 1}, "the one ahead may take whatever it likes"},
		{made(3, line{1, at(0), at(2, 2)}, line{2, at(2), at(1)}), 0, 1,
			made(3, line{1, at(0), at(2, 2)}, line{2, at(2), at(1)}), [3]int{0, 1, 0}, "two are put"},
		{made(3, line{1, at(0), at(2)}, line{2, at(2, 2), at(1)}), 0, 1,
			made(3, line{1, at(0), at(2)}, line{2, at(2, 2), at(1)}), [3]int{0, 1, 0}, "two are taken"},
		{made(3, line{1, at(0), at(2, 2)}, line{2, at(2, 2), at(1)}), 0, 1,
			made(3, line{1, at(0), at(2, 2)}, line{2, at(2, 2), at(1)}), [3]int{0, 1, 0}, "two are put, and taken"},
		{made(3, line{1, at(0), at(2)}, line{2, at(0, 0), at(2)}, line{3, at(2), at(1)}), 0, 1,
			made(3, line{1, at(0), at(2)}, line{2, at(0, 0), at(2)}, line{3, at(2), at(1)}), [3]int{0, 1, 0}, "two transitions put"},
		{made(3, line{1, at(0), at(2)}, line{2, at(2), at(1)}, line{3, at(2), at(1, 1)}), 0, 1,
			made(3, line{1, at(0), at(2)}, line{2, at(2), at(1)}, line{3, at(2), at(1, 1)}), [3]int{0, 1, 0}, "two transitions take"},
		{made(3, line{1, at(0), at(2)}, line{2, at(2, 0), at(1)}), 0, 1,
			made(3, line{1, at(0), at(2)}, line{2, at(2, 0), at(1)}), [3]int{0, 1, 0}, "something else is taken, too"},
		{made(3, line{1, at(0, 2), at(2, 1)}), 0, 1, made(3, line{1, at(0, 2), at(2, 1)}), [3]int{0, 1, 0}, "both are one"},
		{made(3, line{1, at(0), at(2)}, line{2, at(2), at(1, 2)}), 0, 1,
			made(3, line{1, at(0), at(2)}, line{2, at(2), at(1, 2)}), [3]int{0, 1, 0}, "the one behind puts there, too"},
		{made(4, line{1, at(0, 3), at(2)}, line{2, at(2), at(1, 3)}), 0, 1,
			made(3, line{1, at(0, 2), at(1, 2)}), [3]int{0, 1, 1}, "what is put comes back to the one ahead"},
		{long(), 0, 15, one(1), [3]int{0, 1, 14}, "as many places as there may be"},
		{made(6, line{0, at(0), at(2, 4)}, line{3, at(2), at(3)}, line{4, at(4), at(5)}, line{0, at(3, 5), at(1)}), 0, 1, one(0), [3]int{0, 1, 4}, "side by side"},
		{grown(loop(step(1), step(2))), 0, 1, grown(loop(step(1), step(2))), [3]int{0, 1, 0}, "again and again"},

		{made(3, line{1, at(1), at(0)}, line{2, at(0), at(2)}), 1, 2, one(1), [3]int{0, 1, 1}, "both numbers become less"},
		{made(3, line{1, at(2), at(0)}, line{2, at(0), at(1)}), 2, 1, made(2, line{1, at(1), at(0)}), [3]int{1, 0, 1}, "both numbers become less, the end ahead"},
		{made(3, line{1, at(0), at(1)}, line{2, at(1), at(2)}), 0, 2, one(1), [3]int{0, 1, 1}, "the end alone has one less"},
		{made(3, line{1, at(2), at(1)}, line{2, at(1), at(0)}), 2, 0, made(2, line{1, at(1), at(0)}), [3]int{1, 0, 1}, "the beginning alone has one less"},
		{made(5, line{1, at(3), at(0, 1, 2)}, line{2, at(0, 1, 2), at(4)}), 3, 4, one(1), [3]int{0, 1, 3}, "two of three places, and the third one, ahead of both"},
		{made(6, line{1, at(5), at(0, 1, 3)}, line{2, at(0, 1, 3), at(4, 2)}, line{3, at(4, 4), at(2)}), 5, 2,
			made(3, line{1, at(2), at(1, 0)}, line{3, at(1, 1), at(0)}), [3]int{2, 0, 3}, "places ahead, between and behind"},
	} {
		got, x, err := Reduce(c.n, c.i, c.o)
		if err != api.OK || x != c.x || !reflect.DeepEqual(got, c.want) {
			t.Errorf("%s: %v, %v, %v, not %v, %v", c.what, got, x, err, c.want, c.x)
		}
	}
}

// Where weights would become too great a step can't be done: then it is seen which one came first.
func TestOrder(t *testing.T) {
	const x = 2 // a place with room for nine tokens at once
	for _, c := range []struct {
		n, want api.Net
		steps   int
		what    string
	}{
		{made(4, line{1, at(0), times(x, 4, 3)}, line{2, at(3), times(x, 5)}, line{9, at(x), at(1)}),
			made(3, line{1, at(0), times(x, 9)}, line{9, at(x), at(1)}), 1, "nine are not too many"},
		{made(4, line{1, at(0), times(x, 5, 3)}, line{2, at(3), times(x, 5)}, line{9, at(x), at(1)}),
			made(4, line{1, at(0), times(x, 5, 3)}, line{2, at(3), times(x, 5)}, line{9, at(x), at(1)}), 0, "ten are"},
		{made(4, line{1, at(0), times(x, 9, 3)}, line{2, at(3), times(x, 9)}, line{9, at(x), at(1)}),
			made(4, line{1, at(0), times(x, 9, 3)}, line{2, at(3), times(x, 9)}, line{9, at(x), at(1)}), 0, "far too many"},
		{made(4, line{1, at(0), times(x, 9, 3)}, line{2, at(3), at(1)}, line{9, at(x), at(1)}),
			made(3, line{1, at(0), times(x, 9, 1)}, line{9, at(x), at(1)}), 1, "nine that stay nine"},
		{made(6, line{1, at(0), times(x, 5, 3, 4)}, line{2, at(3), times(x, 5)}, line{3, at(4), at(5)}, line{4, at(5), at(1)}, line{9, at(x), at(1)}),
			made(4, line{1, at(0), times(x, 5, 3, 1)}, line{2, at(3), times(x, 5)}, line{9, at(x), at(1)}), 2, "the least place can't, greater ones can"},
		{made(5, line{1, at(0), times(x, 5, 3)}, line{2, at(3), at(4)}, line{3, at(4), times(x, 5)}, line{9, at(x), at(1)}),
			made(4, line{1, at(0), times(x, 5, 3)}, line{3, at(3), times(x, 5)}, line{9, at(x), at(1)}), 1, "the least place first, from the beginning on"},
		{made(5, line{1, at(0), times(x, 5, 4)}, line{2, at(4), at(3)}, line{3, at(3), times(x, 5)}, line{9, at(x), at(1)}),
			made(4, line{1, at(0), times(x, 5, 3)}, line{2, at(3), times(x, 5)}, line{9, at(x), at(1)}), 1, "the least place first, from the end on"},
		{made(6, line{1, at(0), at(3)}, line{2, at(3), times(x, 5, 4)}, line{3, at(3), times(x, 5, 4)}, line{4, at(4), at(5)}, line{5, at(5), times(x, 5)}, line{9, at(x), at(1)}),
			made(4, line{1, at(0), times(x, 5, 3)}, line{5, at(3), times(x, 5)}, line{9, at(x), at(1)}), 3, "the same transitions ahead of places that hand on"},
		{made(6, line{1, at(0), times(x, 5, 3, 4)}, line{2, at(3, 4), at(5)}, line{3, at(5), times(x, 5)}, line{9, at(x), at(1)}),
			made(4, line{1, at(0), times(x, 5, 3)}, line{3, at(3), times(x, 5)}, line{9, at(x), at(1)}), 2, "the same places ahead of places that hand on"},
	} {
		got, ends, err := Reduce(c.n, 0, 1)
		if err != api.OK || ends != [3]int{0, 1, c.steps} || !reflect.DeepEqual(got, c.want) {
			t.Errorf("%s: %v, %v, %v, not %v, %d steps", c.what, got, ends, err, c.want, c.steps)
		}
	}
}

// What is wrong is told, and beside it there is nothing.
func TestErrors(t *testing.T) {
	row := made(3, line{1, at(0), at(2)}, line{2, at(2), at(1)})
	many := wide()
	many.Trans = append(many.Trans, many.Trans[0])
	wrong := func(change func(n *api.Net)) api.Net {
		n := made(3, line{1, at(0), at(2)}, line{2, at(2), at(1)})
		change(&n)
		return n
	}
	for _, c := range []struct {
		n    api.Net
		i, o int
		want api.Errno
		what string
	}{
		{wrong(func(n *api.Net) { n.Places = -1 }), 0, 1, api.ErrRange, "-1 places"},
		{wrong(func(n *api.Net) { n.Places = math.MinInt }), 0, 1, api.ErrRange, "far too few places"},
		{wrong(func(n *api.Net) { n.Places = math.MaxInt }), 0, 1, api.ErrRange, "far too many places"},
		{wrong(func(n *api.Net) { n.Places = 2 }), 0, 1, api.ErrRange, "a place too few"},
		{wrong(func(n *api.Net) { n.Trans[0].Label = 27 }), 0, 1, api.ErrRange, "a label above all"},
		{wrong(func(n *api.Net) { n.Trans[1].Label = -1 }), 0, 1, api.ErrRange, "a label below all"},
		{wrong(func(n *api.Net) { n.Trans[1].Pre = nil }), 0, 1, api.ErrRange, "no Pre"},
		{wrong(func(n *api.Net) { n.Trans[0].Post = times(0, 4) }), 0, 1, api.ErrRange, "Post too long"},
		{wrong(func(n *api.Net) { n.Trans[0].Post = make([]int, 99) }), 0, 1, api.ErrRange, "Post far too long"},
		{wrong(func(n *api.Net) { n.Trans[0].Pre[0] = 10 }), 0, 1, api.ErrRange, "a weight above all"},
		{wrong(func(n *api.Net) { n.Trans[0].Pre[0] = -1 }), 0, 1, api.ErrRange, "a weight below all"},
		{api.Net{Trans: make([]api.Tran, 25)}, 0, 1, api.ErrRange, "too many transitions"},
		{many, 0, 1, api.ErrRange, "too many transitions, all of which do the same"},
		{wrong(func(n *api.Net) { n.Places = 17 }), 5, 5, api.ErrRange, "a wrong net ahead of wrong ends"},
		{api.Net{}, 0, 1, api.ErrForm, "nothing at all"},
		{api.Net{Places: 2}, 0, 1, api.ErrForm, "no way"},
		{api.Net{Places: 2, Trans: []api.Tran{}}, 0, 1, api.ErrForm, "no way, and no transition"},
		{row, -1, 1, api.ErrForm, "no such beginning"},
		{row, 0, 3, api.ErrForm, "no such end"},
		{row, 0, 16, api.ErrForm, "no such end of any net"},
		{row, math.MinInt, math.MaxInt, api.ErrForm, "neither is there"},
		{row, 0, 0, api.ErrForm, "both are one"},
		{row, 1, 0, api.ErrForm, "the wrong way round"},
		{row, 0, 2, api.ErrForm, "it goes on from there"},
		{made(3, line{1, at(0), at(1)}, line{2, at(2), at(1)}), 0, 1, api.ErrForm, "a place that nothing comes to"},
		{made(3, line{1, at(0), at(1)}, line{2, at(0), at(2)}), 0, 1, api.ErrForm, "a place that nothing goes on from"},
		{made(2, line{1, at(0), at(1)}, line{2, at(), at(1)}), 0, 1, api.ErrForm, "a transition that takes nothing"},
		{made(3, line{1, at(0), at(1, 2)}, line{2, at(2), at()}), 0, 1, api.ErrForm, "a transition that puts nothing"},
	} {
		got, x, err := Reduce(c.n, c.i, c.o)
		if got.Places != 0 || len(got.Trans) != 0 || x != [3]int{} || err != c.want {
			t.Errorf("%s: %v, %v, %v, not %v", c.what, got, x, err, c.want)
		}
	}
}

// telling is the chapter's words, done with lists.
type telling struct {
	n    api.Net
	i, o int
	rule int  // the last one that was done: 1, 2, 3; 0 if none could be
	over bool // a place was passed by, for its weights would have been above MaxWeight
}

// next does the first thing that can be done.
func (x telling) next() telling {
	x.rule = 0
	been := map[string]bool{}
	for t, tran := range x.n.Trans {
		key := fmt.Sprint(tran.Pre, tran.Post)
		if been[key] {
			x.n.Trans = gone(x.n.Trans, t)
			x.rule = 1
			return x
		}
		been[key] = true
	}
	clear(been)
	for p := range x.n.Places {
		var weights []int
		for _, tran := range x.n.Trans {
			weights = append(weights, tran.Pre[p], tran.Post[p])
		}
		key := fmt.Sprint(weights)
		if p == x.i || p == x.o {
			continue
		}
		if been[key] {
			x.rule = 2
			return x.without(p)
		}
		been[key] = true
	}
	for p := range x.n.Places {
		if joined, can := x.joined(p); can && net.Wrong(joined.n) == api.OK {
			joined.rule = 3
			return joined
		} else if can {
			x.over = true
		}
	}
	return x
}

// joined is the third step at place p, whatever the weights become.
func (x telling) joined(p int) (telling, bool) {
	var puts, takes []int
	for t, tran := range x.n.Trans {
		puts = append(puts, slices.Repeat([]int{t}, tran.Post[p])...)
		takes = append(takes, slices.Repeat([]int{t}, tran.Pre[p])...)
	}
	if p == x.i || p == x.o || len(puts) != 1 || len(takes) != 1 || puts[0] == takes[0] {
		return x, false
	}
	t, u := puts[0], takes[0]
	sum := 0
	for _, weight := range x.n.Trans[u].Pre {
		sum += weight
	}
	if sum != 1 {
		return x, false
	}
	post := slices.Clone(x.n.Trans[t].Post)
	post[p]--
	for q, weight := range x.n.Trans[u].Post {
		post[q] += weight
	}
	x.n.Trans = slices.Clone(x.n.Trans)
	x.n.Trans[t].Post = post
	x.n.Trans = gone(x.n.Trans, u)
	return x.without(p), true
}

// without is x where place p is gone.
func (x telling) without(p int) telling {
	out := api.Net{Places: x.n.Places - 1}
	for _, tran := range x.n.Trans {
		out.Trans = append(out.Trans, api.Tran{Label: tran.Label, Pre: gone(tran.Pre, p), Post: gone(tran.Post, p)})
	}
	less := func(q int) int {
		if q > p {
			return q - 1
		}
		return q
	}
	x.n, x.i, x.o = out, less(x.i), less(x.o)
	return x
}

// gone is l without entry k.
func gone[T any](l []T, k int) []T {
	return slices.Concat(l[:k], l[k+1:])
}

// seen is how often steps were done, or could not be, among nets that were held against telling.
type seen struct{ nets, still, steps1, steps2, steps3, over int }

// agrees holds one net against telling; it must be right.
func (s *seen) agrees(t *testing.T, n api.Net, i, o int) {
	t.Helper()
	x := telling{n: n, i: i, o: o}
	steps := 0
	for x = x.next(); x.rule > 0; x = x.next() {
		steps++
		switch x.rule {
		case 1:
			s.steps1++
		case 2:
			s.steps2++
		case 3:
			s.steps3++
		}
	}
	got, ends, err := Reduce(n, i, o)
	if err != api.OK || ends != [3]int{x.i, x.o, steps} || !reflect.DeepEqual(got, x.n) {
		t.Fatalf("%v from %d to %d: %v, %v, %v, not %v from %d to %d by %d", n, i, o, got, ends, err, x.n, x.i, x.o, steps)
	}
	s.nets++
	if steps == 0 {
		s.still++
	}
	if x.over {
		s.over++
	}
	// What can't become smaller stays as it is, and has still a beginning and an end.
	again, more, err := Reduce(got, ends[0], ends[1])
	if err != api.OK || more != [3]int{ends[0], ends[1], 0} || !reflect.DeepEqual(again, got) {
		t.Fatalf("%v from %d to %d, again: %v, %v, %v", n, i, o, again, more, err)
	}
}

// All nets of three places and two transitions, with weights of up to 2, and of four places and two or three transitions, with weights of up to 1, where a beginning and an end let them be.
func TestAllSmallNets(t *testing.T) {
	var s seen
	look := func(places int, trans ...api.Tran) {
		if n := (api.Net{Places: places, Trans: trans}); shape.Wrong(n, 0, 1) == api.OK {
			s.agrees(t, n, 0, 1)
		}
	}
	var three, four []api.Tran
	for x := range 81 {
		three = append(three, api.Tran{Label: x % 27, Pre: []int{x % 3, 0, x / 3 % 3}, Post: []int{0, x / 9 % 3, x / 27}})
	}
	for x := range 64 {
		four = append(four, api.Tran{Label: x % 27, Pre: []int{x & 1, 0, x >> 1 & 1, x >> 2 & 1}, Post: []int{0, x >> 3 & 1, x >> 4 & 1, x >> 5}})
	}
	for _, a := range three {
		for _, b := range three {
			look(3, a, b)
		}
	}
	for _, a := range four {
		for _, b := range four {
			look(4, a, b)
			for _, c := range four {
				look(4, a, b, c)
			}
		}
	}
	if s.nets < 20000 || s.still < 2000 || s.steps1 < 200 || s.steps2 < 200 || s.steps3 < 2000 {
		t.Errorf("%+v: too few to tell", s)
	}
}

// chance answers numbers that look like chance, but are the same each time.
func chance(seed uint32) func(below int) int {
	return func(below int) int {
		seed = seed*1664525 + 1013904223
		return int(seed>>8) % below
	}
}

// anyBlock is that many blocks at most, without loops if kinds is 3, with them if it is 4.
func anyBlock(next func(below int) int, many, kinds int) api.Block {
	if many < 3 {
		if next(6) == 0 {
			return silent()
		}
		return step(1 + next(26))
	}
	first := 1 + next(many-2)
	return api.Block{Kind: api.Seq + next(kinds), Kids: []api.Block{anyBlock(next, first, kinds), anyBlock(next, many-1-first, kinds)}}
}

// crossed is a net of blocks with some more transitions and weights.
func crossed(next func(below int) int) api.Net {
	n, err := grow.Grow(anyBlock(next, 3+next(20), 4))
	if err != api.OK {
		return api.Net{}
	}
	for range next(3) {
		tran := api.Tran{Label: next(4), Pre: make([]int, n.Places), Post: make([]int, n.Places)}
		tran.Pre[next(n.Places)] = 1 + next(5)/4
		tran.Post[next(n.Places)] = 1 + next(5)/4
		n.Trans = append(n.Trans, tran)
	}
	for range next(5) {
		tran := n.Trans[next(len(n.Trans))]
		tran.Post[next(n.Places)] = 1 + next(9)
	}
	return n
}

// heavy is a long way on which tokens are thrown, many at once, at some few places.
func heavy(next func(below int) int) api.Net {
	ways, heaps := 4+next(8), 1+next(3)
	places := ways + heaps
	n := api.Net{Places: places}
	for p := range ways {
		// Place 0 is the beginning, place 1 the end, and the places from 2 on are gone through in turn.
		tran := api.Tran{Label: p, Pre: make([]int, places), Post: make([]int, places)}
		from, to := p+1, p+2
		if p == 0 {
			from = 0
		}
		if to == ways {
			to = 1
		}
		if from == ways {
			break
		}
		tran.Pre[from], tran.Post[to] = 1, 1
		for q := ways; q < places; q++ {
			tran.Post[q] = next(3) * next(4)
		}
		n.Trans = append(n.Trans, tran)
		if next(6) == 0 {
			twin := api.Tran{Label: next(27), Pre: slices.Clone(tran.Pre), Post: slices.Clone(tran.Post)}
			n.Trans = append(n.Trans, twin)
		}
	}
	for q := ways; q < places; q++ {
		tran := api.Tran{Label: 26, Pre: make([]int, places), Post: make([]int, places)}
		tran.Pre[q], tran.Post[1] = 1+next(2), 1
		n.Trans = append(n.Trans, tran)
	}
	return n
}

// doubled is n with one place more, or one transition more, that is as another one is.
func doubled(next func(below int) int, n api.Net) api.Net {
	out := api.Net{Places: n.Places}
	again := func(l []int) []int { return slices.Clone(l) }
	if p := next(n.Places + 1); p > 1 && p < n.Places {
		out.Places++
		again = func(l []int) []int { return append(slices.Clone(l), l[p]) }
	}
	for _, tran := range n.Trans {
		out.Trans = append(out.Trans, api.Tran{Label: tran.Label, Pre: again(tran.Pre), Post: again(tran.Post)})
	}
	if out.Places == n.Places {
		tran := out.Trans[next(len(out.Trans))]
		out.Trans = append(out.Trans, api.Tran{Label: next(27), Pre: slices.Clone(tran.Pre), Post: slices.Clone(tran.Post)})
	}
	return out
}

// mixed is n, and its places 0 and 1, with other numbers for all places, and transitions in another order.
func mixed(next func(below int) int, n api.Net) (api.Net, int, int) {
	places, trans := shuffled(next, n.Places), shuffled(next, len(n.Trans))
	moved := func(l []int) []int {
		out := make([]int, len(l))
		for p, weight := range l {
			out[places[p]] = weight
		}
		return out
	}
	out := api.Net{Places: n.Places, Trans: make([]api.Tran, len(n.Trans))}
	for t, tran := range n.Trans {
		out.Trans[trans[t]] = api.Tran{Label: tran.Label, Pre: moved(tran.Pre), Post: moved(tran.Post)}
	}
	return out, places[0], places[1]
}

// shuffled is the numbers below many, in some order.
func shuffled(next func(below int) int, many int) []int {
	l := make([]int, many)
	for k := range l {
		other := next(k + 1)
		l[k] = l[other]
		l[other] = k
	}
	return l
}

func TestAnyNets(t *testing.T) {
	for _, c := range []struct {
		any         func(next func(below int) int) api.Net
		still, over int // at least
	}{{crossed, 100, 20}, {heavy, 0, 1000}} {
		next := chance(13)
		var s seen
		for s.nets < 4000 {
			n := c.any(next)
			for range next(4) {
				if len(n.Trans) > 0 {
					n = doubled(next, n)
				}
			}
			if shape.Wrong(n, 0, 1) == api.OK {
				n, i, o := mixed(next, n)
				s.agrees(t, n, i, o)
			}
		}
		if s.still < c.still || s.over < c.over || s.steps1 < 1000 || s.steps2 < 1000 || s.steps3 < 2000 {
			t.Errorf("%+v: too few to tell", s)
		}
	}
}

// What is smaller is as sound: also that no mark is new.
func TestAsSound(t *testing.T) {
	next := chance(31)
	well, spoilt := 0, 0
	for well+spoilt < 1000 {
		n := crossed(next)
		if shape.Wrong(n, 0, 1) != api.OK {
			continue
		}
		was, err := sound.Judge(n, 0, 1, api.MaxStates)
		if err != api.OK {
			continue
		}
		small, x, err := Reduce(n, 0, 1)
		if err != api.OK || x[2] == 0 {
			continue
		}
		is, err := sound.Judge(small, x[0], x[1], api.MaxStates)
		if err != api.OK || (is.Kind == api.Sound) != (was.Kind == api.Sound) {
			t.Fatalf("%v: %v, but %v: %v, %v", n, was, small, is, err)
		}
		before, _ := reach.Graph(n, shape.Start(n, 0), api.MaxStates)
		after, _ := reach.Graph(small, shape.Start(small, x[0]), api.MaxStates)
		if len(after.Marks) > len(before.Marks) {
			t.Fatalf("%v has %d marks, but %v has %d", n, len(before.Marks), small, len(after.Marks))
		}
		if was.Kind == api.Sound {
			well++
		} else {
			spoilt++
		}
	}
	if well < 100 || spoilt < 100 {
		t.Errorf("%d are sound, %d are not: too few to tell", well, spoilt)
	}
}

// What is built of blocks without loops becomes one transition, with the label that was first.
func TestBlocks(t *testing.T) {
	next := chance(7)
	some := 0
	for range 2000 {
		n, err := grow.Grow(anyBlock(next, 1+next(30), 3))
		if err != api.OK {
			continue
		}
		want := made(2, line{n.Trans[0].Label, at(0), at(1)})
		got, x, err := Reduce(n, 0, 1)
		if err != api.OK || x[0] != 0 || x[1] != 1 || !reflect.DeepEqual(got, want) {
			t.Fatalf("%v: %v, %v, %v, not %v", n, got, x, err, want)
		}
		some++
	}
	if some < 500 {
		t.Errorf("%d blocks have nets: too few to tell", some)
	}
}

// Behind the end of a list there may be spare room: it is neither looked at nor changed; nor is what stands ahead of it.
func TestSpareRoom(t *testing.T) {
	spare := func() api.Net {
		n := made(6, line{1, at(0), at(2, 3)}, line{2, at(2, 3), at(4)}, line{3, at(4), at(5)}, line{4, at(4), at(5)}, line{5, at(5), at(1)}, line{6, at(0), at(1)})
		n.Trans = n.Trans[:5]
		for k := range n.Trans {
			tran := &n.Trans[k]
			tran.Pre = append(tran.Pre, 77, 88)[:6]
			tran.Post = append(tran.Post, 77, 88)[:6]
		}
		return n
	}
	n, was := spare(), spare()
	got, x, err := Reduce(n, 0, 1)
	if err != api.OK || x != [3]int{0, 1, 5} || !reflect.DeepEqual(got, made(2, line{1, at(0), at(1)})) {
		t.Errorf("%v, %v, %v", got, x, err)
	}
	if !reflect.DeepEqual(n.Trans[:6], was.Trans[:6]) {
		t.Errorf("what was handed in was changed: %v", n)
	}
	for k := range n.Trans {
		a, b := n.Trans[k], was.Trans[k]
		if !slices.Equal(a.Pre[:8], b.Pre[:8]) || !slices.Equal(a.Post[:8], b.Post[:8]) {
			t.Errorf("spare room of transition %d was changed", k)
		}
	}
}

// Lists that are handed in may be one and the same.
func TestSharedLists(t *testing.T) {
	first, mid, last := []int{1, 0, 0}, []int{0, 1, 0}, []int{0, 0, 1}
	n := api.Net{Places: 3, Trans: []api.Tran{{Label: 1, Pre: first, Post: mid}, {Label: 2, Pre: mid, Post: last}, {Label: 3, Pre: first, Post: last}}}
	got, x, err := Reduce(n, 0, 2)
	if err != api.OK || x != [3]int{0, 1, 2} || !reflect.DeepEqual(got, made(2, line{1, at(0), at(1)})) {
		t.Errorf("%v, %v, %v", got, x, err)
	}
	if !slices.Equal(first, []int{1, 0, 0}) || !slices.Equal(mid, []int{0, 1, 0}) || !slices.Equal(last, []int{0, 0, 1}) {
		t.Errorf("what was handed in was changed: %v, %v, %v", first, mid, last)
	}
}

// What is answered shares nothing with what was handed in, whether or not there was a step.
func TestAnswersAreNew(t *testing.T) {
	for _, b := range []api.Block{step(1), seq(step(1), step(2)), loop(step(1), step(2)), both(loop(step(1), step(2)), silent())} {
		n := grown(b)
		got, x, err := Reduce(n, 0, 1)
		want, wantX, _ := Reduce(grown(b), 0, 1)
		for k := range n.Trans {
			n.Trans[k].Label = 26
			for p := range n.Places {
				n.Trans[k].Pre[p], n.Trans[k].Post[p] = 9, 9
			}
		}
		if err != api.OK || x != wantX || !reflect.DeepEqual(got, want) {
			t.Errorf("what was handed in was kept: %v, %v, %v", got, x, err)
		}
		for k := range got.Trans {
			got.Trans[k].Label = 25
			got.Trans[k].Pre[0], got.Trans[k].Post[0] = 8, 8
		}
		if again, x, err := Reduce(grown(b), 0, 1); err != api.OK || x != wantX || !reflect.DeepEqual(again, want) {
			t.Errorf("an answer was changed, and then comes %v, %v, %v", again, x, err)
		}
	}
}

// Whoever changes one list of an answer, or goes on behind its end, changes no other one.
func TestListsOfOneAnswer(t *testing.T) {
	n := grown(seq(loop(step(1), step(2)), both(step(3), step(4))))
	lists := func() [][]int {
		small, _, _ := Reduce(n, 0, 1)
		var l [][]int
		for _, tran := range small.Trans {
			l = append(l, tran.Pre, tran.Post)
		}
		return l
	}
	if len(lists()) < 8 {
		t.Fatalf("%d lists", len(lists()))
	}
	for k := range lists() {
		want, got := lists(), lists()
		longer := got[k]
		for range 20 {
			longer = append(longer, 88)
		}
		for p := range got[k] {
			got[k][p], want[k][p] = 99, 99
		}
		if !reflect.DeepEqual(got, want) {
			t.Errorf("list %d: %v, not %v", k, got, want)
		}
	}
}

func ExampleReduce() {
	n := api.Net{Places: 4, Trans: []api.Tran{
		{Label: 1, Pre: []int{1, 0, 0, 0}, Post: []int{0, 1, 0, 0}},
		{Label: 2, Pre: []int{0, 1, 0, 0}, Post: []int{0, 0, 1, 0}},
		{Label: 3, Pre: []int{0, 0, 1, 0}, Post: []int{0, 0, 0, 1}},
		{Label: 4, Pre: []int{0, 0, 1, 0}, Post: []int{0, 0, 0, 1}},
	}}
	small, x, err := Reduce(n, 0, 3)
	fmt.Println(small, x, err == api.OK)
	// Output: {2 [{1 [1 0] [0 1]}]} [0 1 3] true
}
