package flow

import (
	"fmt"
	"math"
	"reflect"
	"slices"
	"testing"

	"tokenhall/api"
	"tokenhall/net"
)

const million = 1000000

// swap goes from place 0 to place 1, two for one, and back, one for one.
func swap() api.Net {
	return api.Net{Places: 2, Trans: []api.Tran{
		{Label: 1, Pre: []int{1, 0}, Post: []int{0, 2}},
		{Label: 2, Pre: []int{0, 1}, Post: []int{1, 0}},
	}}
}

// busy has transitions that take much, nothing, what they put, and at several places.
func busy() api.Net {
	return api.Net{Places: 3, Trans: []api.Tran{
		{Pre: []int{2, 0, 1}, Post: []int{0, 3, 0}},
		{Pre: []int{0, 0, 0}, Post: []int{0, 0, 1}},
		{Label: 7, Pre: []int{1, 1, 0}, Post: []int{1, 1, 0}},
		{Label: 7, Pre: []int{0, 9, 0}, Post: []int{9, 0, 9}},
		{Label: 26, Pre: []int{0, 0, 1}, Post: []int{0, 0, 0}},
	}}
}

// ring goes round three places: three for one, one for two, two for three.
func ring() api.Net {
	return api.Net{Places: 3, Trans: []api.Tran{
		{Pre: []int{3, 0, 0}, Post: []int{0, 1, 0}},
		{Pre: []int{0, 1, 0}, Post: []int{0, 0, 2}},
		{Pre: []int{0, 0, 2}, Post: []int{3, 0, 0}},
	}}
}

// largest is at every limit at once, and puts, or takes, as much as can be.
func largest(pre, post int) api.Net {
	n := api.Net{Places: api.MaxPlaces}
	for range api.MaxTrans {
		n.Trans = append(n.Trans, api.Tran{
			Label: api.MaxLabel,
			Pre:   slices.Repeat([]int{pre}, api.MaxPlaces),
			Post:  slices.Repeat([]int{post}, api.MaxPlaces),
		})
	}
	return n
}

// changed is swap with one thing that is different.
func changed(change func(n *api.Net)) api.Net {
	n := swap()
	change(&n)
	return n
}

// wrong are nets that are wrong, each for one thing alone.
func wrong() map[string]api.Net {
	return map[string]api.Net{
		"-1 places":               {Places: -1},
		"the fewest places":       {Places: math.MinInt},
		"one place too many":      {Places: api.MaxPlaces + 1},
		"the most places":         {Places: math.MaxInt},
		"one transition too many": {Trans: make([]api.Tran, api.MaxTrans+1)},
		"label -1":                changed(func(n *api.Net) { n.Trans[0].Label = -1 }),
		"label too large":         changed(func(n *api.Net) { n.Trans[1].Label = api.MaxLabel + 1 }),
		"Pre of nothing":          changed(func(n *api.Net) { n.Trans[0].Pre = nil }),
		"Post of nothing":         changed(func(n *api.Net) { n.Trans[1].Post = nil }),
		"Pre too long":            changed(func(n *api.Net) { n.Trans[1].Pre = []int{0, 1, 0} }),
		"Post too short":          changed(func(n *api.Net) { n.Trans[0].Post = []int{0} }),
		"Pre below 0":             changed(func(n *api.Net) { n.Trans[1].Pre[0] = -1 }),
		"Post below 0":            changed(func(n *api.Net) { n.Trans[0].Post[0] = -1 }),
		"Pre too large":           changed(func(n *api.Net) { n.Trans[0].Pre[1] = api.MaxWeight + 1 }),
		"Post too large":          changed(func(n *api.Net) { n.Trans[1].Post[1] = math.MaxInt }),
		"one more place":          changed(func(n *api.Net) { n.Places = 3 }),
		"one place fewer":         changed(func(n *api.Net) { n.Places = 1 }),
	}
}

func TestCount(t *testing.T) {
	for _, c := range []struct {
		n    api.Net
		seq  []int
		want []int
		what string
	}{
		{api.Net{}, nil, nil, "nothing"},
		{api.Net{}, []int{0, 1, -1}, nil, "none of nothing"},
		{api.Net{Places: 5}, []int{0, 4}, nil, "places are no transitions"},
		{swap(), nil, []int{0, 0}, "nothing fires"},
		{swap(), []int{}, []int{0, 0}, "nothing fires, empty"},
		{swap(), []int{0, 0, 1}, []int{2, 1}, "the document's third example"},
		{swap(), []int{1, 0, 0}, []int{2, 1}, "in another order"},
		{swap(), []int{1, 1, 1}, []int{0, 3}, "the last one alone"},
		{swap(), []int{2, -1, 0, math.MaxInt, math.MinInt, 1, 7}, []int{1, 1}, "what is none is not counted"},
		{swap(), slices.Repeat([]int{1}, million+1), []int{0, million + 1}, "more often than Effect takes"},
		{busy(), []int{4, 0, 4, 2, 4}, []int{1, 0, 1, 0, 3}, "some of five"},
		{api.Net{Places: -1, Trans: make([]api.Tran, 26)}, []int{25, 25, 26}, append(make([]int, 25), 2), "of a wrong net as well"},
	} {
		if got := Count(c.n, c.seq); !slices.Equal(got, c.want) {
			t.Errorf("%s: %v, not %v", c.what, got, c.want)
		}
	}
	for what, n := range wrong() {
		want := make([]int, len(n.Trans))
		if len(want) > 0 {
			want[0] = 2
		}
		if got := Count(n, []int{0, -1, 0, len(n.Trans)}); !slices.Equal(got, want) {
			t.Errorf("%s: %v, not %v", what, got, want)
		}
	}
}

func TestEffect(t *testing.T) {
	for _, c := range []struct {
		n      api.Net
		counts []int
		want   []int
		what   string
	}{
		{api.Net{}, nil, nil, "nothing"},
		{api.Net{}, []int{}, nil, "nothing, empty"},
		{api.Net{Places: 2}, nil, []int{0, 0}, "places alone"},
		{api.Net{Trans: make([]api.Tran, 2)}, []int{5, million}, nil, "transitions alone"},
		{swap(), []int{0, 0}, []int{0, 0}, "nothing fires"},
		{swap(), []int{2, 1}, []int{-1, 3}, "the document's third example"},
		{swap(), []int{0, 4}, []int{4, -4}, "the last one alone"},
		{swap(), []int{3, 3}, []int{0, 3}, "as often"},
		{swap(), []int{million, 0}, []int{-million, 2 * million}, "as often as may be"},
		{swap(), []int{million, million}, []int{0, million}, "both as often as may be"},
		{busy(), []int{0, 0, 77, 0, 0}, []int{0, 0, 0}, "what takes what it puts"},
		{busy(), []int{1, 1, 1, 1, 1}, []int{7, -6, 8}, "each once"},
		{busy(), []int{3, 0, 0, 1, 6}, []int{3, 0, 0}, "here and there"},
		{largest(0, 9), slices.Repeat([]int{million}, 24), slices.Repeat([]int{216 * million}, 16), "the most"},
		{largest(9, 0), slices.Repeat([]int{million}, 24), slices.Repeat([]int{-216 * million}, 16), "the fewest"},
		{largest(9, 9), slices.Repeat([]int{million}, 24), make([]int, 16), "much, and nothing comes of it"},
	} {
		got, err := Effect(c.n, c.counts)
		if !slices.Equal(got, c.want) || err != api.OK {
			t.Errorf("%s: %v, %d, not %v", c.what, got, err, c.want)
		}
		nothing := slices.Max(append([]int{0}, c.want...)) == 0 && slices.Min(append([]int{0}, c.want...)) == 0
		if Round(c.n, c.counts) != nothing {
			t.Errorf("%s: Round is not %v", c.what, nothing)
		}
	}
}

func TestEffectRange(t *testing.T) {
	check := func(what string, n api.Net, counts []int) {
		if got, err := Effect(n, counts); got != nil || err != api.ErrRange {
			t.Errorf("%s, %v: %v, %d", what, counts, got, err)
		}
		if Round(n, counts) {
			t.Errorf("%s, %v: Round", what, counts)
		}
	}
	for what, n := range wrong() {
		check(what, n, make([]int, len(n.Trans)))
		check(what, n, nil)
		check(what, n, []int{1, 1, 1})
	}
	for _, counts := range [][]int{
		nil, {}, {0}, {0, 0, 0}, {-1, 0}, {0, -1}, {million + 1, 0}, {0, million + 1},
		{math.MinInt, 0}, {0, math.MinInt}, {math.MaxInt, 0}, {0, math.MaxInt},
	} {
		check("no counts of it", swap(), counts)
	}
	check("no counts of nothing", api.Net{}, []int{0})
	check("counts of places", api.Net{Places: 2}, []int{0, 0})
	// What such counts come to would be 0 everywhere, or go round to it.
	check("below 0, and nothing comes of it", busy(), []int{0, 0, -1, 0, 0})
	check("too often, and nothing comes of it", ring(), []int{million + 1, million + 1, million + 1})
	check("so often that it goes round", api.Net{Places: 1, Trans: []api.Tran{{Pre: []int{0}, Post: []int{8}}}}, []int{1 << 61})
}

func TestWeigh(t *testing.T) {
	const high, low = math.MaxInt, math.MinInt
	for _, c := range []struct {
		y, m []int
		want int
		what string
	}{
		{nil, nil, 0, "nothing"},
		{[]int{}, nil, 0, "nothing, empty"},
		{[]int{1, 2}, nil, 0, "no mark"},
		{nil, []int{1, 2}, 0, "no weights"},
		{[]int{2, 3}, []int{4, 5}, 23, "ordinary"},
		{[]int{2, 3, 100}, []int{4, 5}, 23, "more weights"},
		{[]int{2, 3}, []int{4, 5, 100}, 23, "more places"},
		{[]int{2, -3}, []int{4, 5}, -7, "below 0"},
		{[]int{-2, 3}, []int{4, -5}, -23, "a mark that is not right"},
		{[]int{-2, -3}, []int{-4, -5}, 23, "both below 0"},
		{[]int{0, 0, 0}, []int{high, low, 5}, 0, "noughts"},
		{make([]int, 40), make([]int, 50), 0, "more than a net's places"},
		{slices.Repeat([]int{1}, 40), slices.Repeat([]int{3}, 50), 120, "all of them are weighed"},
		{[]int{1}, []int{high}, high, "the greatest one"},
		{[]int{-1}, []int{high}, -high, "the greatest one, below 0"},
		{[]int{1}, []int{low}, low, "the least one"},
		{[]int{-1}, []int{low}, low, "the least one goes round"},
		{[]int{1, 1}, []int{high, 1}, low, "a sum goes round"},
		{[]int{1, 1}, []int{low, -1}, high, "a sum goes round, down"},
		{[]int{2}, []int{high}, -2, "a product goes round"},
		{[]int{high}, []int{high}, 1, "the greatest ones"},
		{[]int{low}, []int{low}, 0, "the least ones"},
		{[]int{1 << 32}, []int{1 << 32}, 0, "just 2^64"},
		{[]int{1<<32 + 1}, []int{1 << 32}, 1 << 32, "above 2^64"},
		{[]int{1 << 32, 1}, []int{1 << 31, -1}, high, "past the greatest one, and back"},
	} {
		if got := Weigh(c.y, c.m); got != c.want {
			t.Errorf("%s: %d, not %d", c.what, got, c.want)
		}
		if got := Weigh(c.m, c.y); got != c.want {
			t.Errorf("%s, exchanged: %d, not %d", c.what, got, c.want)
		}
	}
}

func TestKept(t *testing.T) {
	move := api.Net{Places: 2, Trans: []api.Tran{{Pre: []int{1, 0}, Post: []int{0, 1}}}}
	long := func(first int) []int { return append([]int{first}, slices.Repeat([]int{million}, 15)...) }
	for _, c := range []struct {
		n    api.Net
		y    []int
		want bool
		what string
	}{
		{api.Net{}, nil, true, "nothing"},
		{api.Net{}, []int{}, true, "nothing, empty"},
		{api.Net{}, []int{0}, false, "weights of no place"},
		{api.Net{Places: 2}, []int{5, -7}, true, "no transition"},
		{api.Net{Places: 2}, []int{million, -million}, true, "no transition, at both limits"},
		{api.Net{Places: 2}, []int{million + 1, 0}, false, "no transition, too large"},
		{api.Net{Places: 2}, []int{0, -million - 1}, false, "no transition, too small"},
		{api.Net{Places: 2}, nil, false, "no transition, too few"},
		{api.Net{Trans: make([]api.Tran, 3)}, nil, true, "transitions alone"},
		{swap(), []int{0, 0}, true, "noughts"},
		{swap(), []int{2, 1}, false, "the first one keeps it, the second one does not"},
		{swap(), []int{1, 1}, false, "the second one keeps it, the first one does not"},
		{ring(), []int{2, 6, 3}, true, "a ring"},
		{ring(), []int{-2, -6, -3}, true, "a ring, below 0"},
		{ring(), []int{2, 6, 4}, false, "a ring, one too much"},
		{ring(), []int{2, 6}, false, "a ring, too few"},
		{ring(), []int{2, 6, 3, 0}, false, "a ring, too many"},
		{ring(), nil, false, "a ring, none"},
		{move, []int{million, million}, true, "the most"},
		{move, []int{-million, -million}, true, "the least"},
		{move, []int{million + 1, million + 1}, false, "above the most"},
		{move, []int{-million - 1, -million - 1}, false, "below the least"},
		{move, []int{math.MaxInt, math.MaxInt}, false, "the greatest ones"},
		{move, []int{math.MinInt, math.MinInt}, false, "the least ones"},
		{move, []int{million, -million}, false, "the most, and the least"},
		{busy(), []int{0, 0, 0}, true, "noughts in a busy net"},
		{busy(), []int{1, 1, 0}, false, "one keeps it, and others do not"},
		{largest(9, 9), long(-million), true, "every limit"},
		{largest(9, 8), long(-million), false, "every limit, one less"},
	} {
		if got := Kept(c.n, c.y); got != c.want {
			t.Errorf("%s: %v", c.what, got)
		}
	}
	for what, n := range wrong() {
		for _, y := range [][]int{nil, {0}, {0, 0}, {0, 0, 0}, make([]int, 17)} {
			if Kept(n, y) {
				t.Errorf("%s keeps %v", what, y)
			}
		}
	}
}

func TestRound(t *testing.T) {
	for _, c := range []struct {
		n      api.Net
		counts []int
		want   bool
		what   string
	}{
		{api.Net{}, nil, true, "nothing"},
		{api.Net{Trans: make([]api.Tran, 2)}, []int{1, 2}, true, "no place"},
		{ring(), []int{0, 0, 0}, true, "nothing fires"},
		{ring(), []int{1, 1, 1}, true, "once round"},
		{ring(), []int{million, million, million}, true, "as often as may be"},
		{ring(), []int{1, 1, 0}, false, "not all the way"},
		{ring(), []int{2, 1, 1}, false, "one too often"},
		{swap(), []int{1, 1}, false, "0 at the first place alone"},
		{swap(), []int{1, 2}, false, "0 at the second place alone"},
		{busy(), []int{0, 1, 0, 0, 1}, true, "put, and taken"},
		{busy(), []int{0, 1, 0, 0, 2}, false, "fewer at the last place"},
		{busy(), []int{0, 2, 0, 0, 1}, false, "more at the last place"},
	} {
		if got := Round(c.n, c.counts); got != c.want {
			t.Errorf("%s: %v", c.what, got)
		}
	}
}

// The state equation: a run's effect is what it changed, and what is kept by weights is kept by runs.
func TestStateEquation(t *testing.T) {
	y := []int{2, 6, 3}
	var walk func(n api.Net, m []int, seq []int)
	walk = func(n api.Net, m []int, seq []int) {
		now, err := net.Run(n, m, seq)
		if err != api.OK || len(seq) > 6 {
			return
		}
		gain, err := Effect(n, Count(n, seq))
		if err != api.OK || len(gain) != n.Places {
			t.Fatalf("%v: %v, %d", seq, gain, err)
		}
		for p := range m {
			if m[p]+gain[p] != now[p] {
				t.Errorf("%v by %v is %v, but gains %v", m, seq, now, gain)
			}
		}
		if Round(n, Count(n, seq)) != slices.Equal(m, now) {
			t.Errorf("%v by %v is %v: Round tells otherwise", m, seq, now)
		}
		if Kept(n, y) && Weigh(y, m) != Weigh(y, now) {
			t.Errorf("%v by %v is %v, and does not weigh as much", m, seq, now)
		}
		for i := range n.Trans {
			walk(n, m, append(slices.Clone(seq), i))
		}
	}
	if !Kept(ring(), y) {
		t.Error("a ring does not keep its weights")
	}
	walk(ring(), []int{6, 1, 2}, nil)
	walk(busy(), []int{2, 9, 1}, nil)
	walk(swap(), []int{2, 1}, nil)
}

// Behind the end of a list there may be spare room: it is neither looked at nor changed.
func TestSpareRoom(t *testing.T) {
	pre, post := []int{1, 0, 99, 99}, []int{0, 1, -1, -1}
	seq, counts, y := []int{0, 0, 0, 0}, []int{2, -9, -9}, []int{4, 4, math.MaxInt}
	room := []api.Tran{{Label: 1, Pre: pre[:2], Post: post[:2]}, {Label: 99}}
	n := api.Net{Places: 2, Trans: room[:1]}
	if got := Count(n, seq[:2]); !slices.Equal(got, []int{2}) {
		t.Errorf("Count: %v", got)
	}
	if got, err := Effect(n, counts[:1]); !slices.Equal(got, []int{-2, 2}) || err != api.OK {
		t.Errorf("Effect: %v, %d", got, err)
	}
	if got := Weigh(y[:2], pre[:2]); got != 4 {
		t.Errorf("Weigh: %d", got)
	}
	if !Kept(n, y[:2]) {
		t.Error("Kept")
	}
	if Round(n, counts[:1]) {
		t.Error("Round")
	}
	for _, l := range []struct{ got, want []int }{
		{pre, []int{1, 0, 99, 99}}, {post, []int{0, 1, -1, -1}},
		{seq, []int{0, 0, 0, 0}}, {counts, []int{2, -9, -9}}, {y, []int{4, 4, math.MaxInt}},
	} {
		if !slices.Equal(l.got, l.want) {
			t.Errorf("%v was changed to %v", l.want, l.got)
		}
	}
	if room[1].Label != 99 || room[1].Pre != nil || room[1].Post != nil {
		t.Error("the room behind the transitions was changed")
	}
}

// What is answered shares nothing with what was handed in, nor with what was answered ahead of it.
func TestAnswersAreNew(t *testing.T) {
	n, seq, counts := busy(), []int{0, 1, 2}, []int{1, 1, 1, 1, 1}
	first := Count(n, seq)
	gain, _ := Effect(n, counts)
	for _, l := range [][]int{first, gain} {
		for i := range l {
			l[i] = 77
		}
		_ = append(l, 88)
	}
	if !reflect.DeepEqual(n, busy()) || !slices.Equal(seq, []int{0, 1, 2}) || !slices.Equal(counts, []int{1, 1, 1, 1, 1}) {
		t.Error("an answer shares memory with what was handed in")
	}
	if got := Count(n, seq); !slices.Equal(got, []int{1, 1, 1, 0, 0}) {
		t.Errorf("Count, again: %v", got)
	}
	if got, err := Effect(n, counts); !slices.Equal(got, []int{7, -6, 8}) || err != api.OK {
		t.Errorf("Effect, again: %v, %d", got, err)
	}
}

func ExampleEffect() {
	n := api.Net{Places: 2, Trans: []api.Tran{
		{Label: 1, Pre: []int{1, 0}, Post: []int{0, 2}},
		{Label: 2, Pre: []int{0, 1}, Post: []int{1, 0}},
	}}
	gain, err := Effect(n, Count(n, []int{0, 0, 1}))
	fmt.Println(gain, err == api.OK)
	// Output: [-1 3] true
}
