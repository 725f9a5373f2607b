package tongue

import (
	"cmp"
	"fmt"
	"math"
	"reflect"
	"slices"
	"testing"

	"tokenhall/api"
	"tokenhall/blocks"
	"tokenhall/grow"
	"tokenhall/net"
	"tokenhall/reach"
	"tokenhall/shape"
)

// line is a transition by its label and places; a place that stands there twice has weight 2.
type line struct {
	label    int
	from, to []int
}

// at are places.
func at(places ...int) []int { return places }

// times is place p that often.
func times(p, many int) []int { return slices.Repeat([]int{p}, many) }

// made is the net of these lines.
func made(places int, lines ...line) api.Net {
	n := api.Net{Places: places}
	for _, l := range lines {
		tran := api.Tran{Label: l.label, Pre: make([]int, places), Post: make([]int, places)}
		for _, p := range l.from {
			tran.Pre[p]++
		}
		for _, p := range l.to {
			tran.Post[p]++
		}
		n.Trans = append(n.Trans, tran)
	}
	return n
}

func step(label int) api.Block           { return api.Block{Kind: api.Step, Label: label} }
func silent() api.Block                  { return api.Block{Kind: api.Silent} }
func seq(kids ...api.Block) api.Block    { return api.Block{Kind: api.Seq, Kids: kids} }
func choice(kids ...api.Block) api.Block { return api.Block{Kind: api.Choice, Kids: kids} }
func both(kids ...api.Block) api.Block   { return api.Block{Kind: api.Both, Kids: kids} }
func loop(kids ...api.Block) api.Block   { return api.Block{Kind: api.Loop, Kids: kids} }

// steps are steps with the labels from 1 on.
func steps(many int) []api.Block {
	var l []api.Block
	for label := range many {
		l = append(l, step(label+1))
	}
	return l
}

// grown is the net of b, from place 0 to place 1.
func grown(b api.Block) api.Net {
	n, err := grow.Grow(b)
	if err != api.OK {
		panic(fmt.Sprint("no net comes of ", b, ": ", err))
	}
	return n
}

// words4 has 5 times 5 times 4 times 4 words, all of four letters.
func words4() api.Block {
	return seq(choice(steps(5)...), choice(steps(5)...), choice(steps(4)...), choice(steps(4)...))
}

// idle has 22 letters to say again and again, but leaves place 2 only with two tokens, of which there is one; beside that it has the word 7.
func idle() api.Net {
	lines := []line{{0, at(0), at(2)}, {0, at(2, 2), at(1)}, {7, at(0), at(1)}}
	for label := 1; label <= 21; label++ {
		lines = append(lines, line{label, at(2), at(2)})
	}
	return made(3, lines...)
}

// wide comes to 294 marks, and 2 and steps more: it moves 5, 6 and 6 tokens side by side, one by one, then goes that many steps.
func wide(steps int) api.Net {
	end := steps + 7
	lines := []line{
		{0, at(0), slices.Concat(times(1, 5), times(2, 6), times(3, 6))},
		{1, at(1), at(4)}, {2, at(2), at(5)}, {3, at(3), at(6)},
		{0, slices.Concat(times(4, 5), times(5, 6), times(6, 6)), at(7)},
	}
	for k := range steps {
		lines = append(lines, line{4, at(7 + k), at(8 + k)})
	}
	return made(end+1, lines...)
}

// wideWord is a word of wide.
func wideWord(steps int) []int {
	return slices.Concat(times(3, 6), times(1, 5), times(2, 6), times(4, steps))
}

// crowd has all words of eight letters of 22, and no shorter ones.
func crowd() api.Net {
	lines := []line{{0, at(0), times(2, 8)}, {0, times(3, 8), at(1)}}
	for label := 1; label <= 22; label++ {
		lines = append(lines, line{label, at(2), at(3)})
	}
	return made(4, lines...)
}

func TestWordsOfNets(t *testing.T) {
	for _, c := range []struct {
		n     api.Net
		i, o  int
		most  int
		want  [][]int
		least int // -1: there is no word
		what  string
	}{
		{made(2, line{1, at(0), at(1)}), 0, 1, 8, [][]int{{1}}, 1, "one transition"},
		{made(2, line{1, at(0), at(1)}), 0, 1, 0, nil, 1, "one transition, and no room"},
		{made(2, line{1, at(1), at(0)}), 1, 0, 8, [][]int{{1}}, 1, "from place 1 to place 0"},
		{made(2, line{26, at(0), at(1)}), 0, 1, 1, [][]int{{26}}, 1, "the greatest label, and just enough room"},
		{made(2, line{0, at(0), at(1)}), 0, 1, 8, [][]int{nil}, 0, "nobody sees it"},
		{made(2, line{0, at(0), at(1)}), 0, 1, 0, [][]int{nil}, 0, "nobody sees it, and no room"},
		{made(2, line{3, at(0), at(1)}, line{1, at(0), at(1)}, line{3, at(0), at(1)}, line{0, at(0), at(1)}), 0, 1, 8, [][]int{nil, {1}, {3}}, 0, "each once, the shorter ones first, rising"},
		{made(3, line{2, at(0), at(2)}, line{1, at(2), at(1)}), 0, 1, 8, [][]int{{2, 1}}, 2, "one behind the other"},
		{made(3, line{2, at(0), at(2)}, line{1, at(2), at(1)}), 0, 1, 1, nil, 2, "one behind the other, and room for one"},
		{made(4, line{2, at(3), at(0)}, line{0, at(0), at(2)}, line{9, at(2), at(1)}), 3, 1, 8, [][]int{{2, 9}}, 2, "unseen between two"},
		{made(4, line{0, at(0), at(2)}, line{0, at(2), at(3)}, line{9, at(3), at(1)}), 0, 1, 8, [][]int{{9}}, 1, "twice unseen ahead of one"},
		{made(4, line{9, at(0), at(2)}, line{0, at(2), at(3)}, line{0, at(3), at(1)}), 0, 1, 8, [][]int{{9}}, 1, "twice unseen behind one"},
		{made(4, line{1, at(0), at(2)}, line{10, at(2), at(1)}, line{9, at(2), at(1)}, line{10, at(0), at(3)}, line{1, at(3), at(1)}), 0, 1, 8, [][]int{{1, 9}, {1, 10}, {10, 1}}, 2, "letters are numbers"},
		{made(4, line{1, at(0), at(2)}, line{1, at(0), at(3)}, line{2, at(2), at(1)}, line{3, at(3), at(1)}), 0, 1, 8, [][]int{{1, 2}, {1, 3}}, 2, "one letter goes two ways"},
		{made(3, line{1, at(0), at(2)}, line{1, at(2), at(1)}, line{2, at(0), at(1)}), 0, 1, 8, [][]int{{2}, {1, 1}}, 1, "the shorter one has the greater letter"},
		{made(6, line{0, at(0), at(2, 4)}, line{3, at(2), at(3)}, line{4, at(4), at(5)}, line{0, at(3, 5), at(1)}), 0, 1, 8, [][]int{{3, 4}, {4, 3}}, 2, "the document's twelfth example: either order"},
		{made(4, line{0, at(0), at(2)}, line{1, at(2), at(3)}, line{2, at(3), at(2)}, line{0, at(3), at(1)}), 0, 1, 5, [][]int{{1}, {1, 2, 1}, {1, 2, 1, 2, 1}}, 1, "again and again"},
		{made(4, line{0, at(0), at(2)}, line{0, at(2), at(3)}, line{0, at(3), at(2)}, line{0, at(3), at(1)}), 0, 1, 8, [][]int{nil}, 0, "again and again, unseen"},
		{made(4, line{0, at(0), at(2)}, line{0, at(2), at(3)}, line{0, at(3), at(2)}, line{1, at(2), at(1)}, line{2, at(3), at(1)}), 0, 1, 8, [][]int{{1}, {2}}, 1, "round and round, unseen, and out on either side"},
		{made(3, line{1, at(0), at(2)}, line{2, at(2), at(2)}, line{3, at(2), at(1)}), 0, 1, 4, [][]int{{1, 3}, {1, 2, 3}, {1, 2, 2, 3}}, 2, "what comes back to where it was"},
		{made(3, line{1, at(0), at(2, 2)}, line{2, at(2, 2), at(1)}), 0, 1, 8, [][]int{{1, 2}}, 2, "two tokens at once"},
		{made(4, line{1, at(0), at(2, 2)}, line{2, at(2), at(3)}, line{3, at(3, 3), at(1)}), 0, 1, 8, [][]int{{1, 2, 2, 3}}, 4, "two tokens, one by one"},
		{made(4, line{1, at(0), at(2)}, line{2, at(0), at(3)}, line{3, at(2, 3), at(1)}), 0, 1, 8, nil, -1, "both are needed, and one comes"},
		{made(3, line{1, at(0), at(1, 2)}, line{2, at(2), at(1)}), 0, 1, 8, nil, -1, "two at the end are not the end"},
		{made(2, line{1, at(0), at(1, 1)}), 0, 1, 8, nil, -1, "two at the end at once"},
		{made(2, line{1, at(0, 0), at(1)}), 0, 1, 8, nil, -1, "nothing ever fires"},
		{made(3, line{1, at(0), at(1)}, line{2, at(0), at(1, 2)}, line{3, at(2), at(1)}), 0, 1, 8, [][]int{{1}}, 1, "what is beside the end is left out"},
		{made(3, line{1, at(0), at(2)}, line{2, at(2), at(1)}, line{5, at(2, 2), at(1)}), 0, 1, 8, [][]int{{1, 2}}, 2, "one of them never fires"},
		{made(4, line{1, at(0), at(2, 2)}, line{2, at(2), at(1)}, line{3, at(2, 2), at(3)}, line{4, at(3), at(1)}), 0, 1, 8, [][]int{{1, 3, 4}}, 3, "what is begun otherwise never ends"},
		{idle(), 0, 1, 8, [][]int{{7}}, 1, "many beginnings that come to nothing"},
		{wide(4), 0, 11, 8, nil, 21, "as many marks as may be, all words too long"},
	} {
		got, err := Words(c.n, c.i, c.o, c.most)
		if err != api.OK || !slices.EqualFunc(got, c.want, slices.Equal) {
			t.Errorf("%s: %v, %v, not %v", c.what, got, err, c.want)
		}
		for _, w := range c.want {
			if got, err := Has(c.n, c.i, c.o, w); !got || err != api.OK {
				t.Errorf("%s: has %v: %v, %v", c.what, w, got, err)
			}
		}
		least, err := Least(c.n, c.i, c.o)
		if c.least < 0 && (least != 0 || err != api.ErrNone) || c.least >= 0 && (least != c.least || err != api.OK) {
			t.Errorf("%s: the shortest one has %d, %v, not %d", c.what, least, err, c.least)
		}
	}
}

func TestHas(t *testing.T) {
	rounds := made(4, line{0, at(0), at(2)}, line{1, at(2), at(3)}, line{2, at(3), at(2)}, line{0, at(3), at(1)})
	mixed := grown(seq(both(step(1), step(2)), loop(choice(step(3), step(4)), silent()), step(5)))
	extra := made(3, line{1, at(0), at(1, 2)}, line{2, at(2), at(1)})
	for _, c := range []struct {
		n    api.Net
		w    []int
		want bool
		what string
	}{
		{grown(silent()), nil, true, "nothing, unseen"},
		{grown(silent()), []int{0}, false, "what nobody sees is no letter"},
		{grown(silent()), []int{1}, false, "a letter that no transition has"},
		{grown(step(1)), nil, false, "a step is not left out"},
		{grown(step(1)), []int{1, 1}, false, "a step is not done twice"},
		{grown(step(1)), []int{1, 0}, false, "no letter behind a word"},
		{grown(step(1)), []int{0, 1}, false, "no letter ahead of a word"},
		{grown(step(1)), []int{-1}, false, "below 0"},
		{grown(step(1)), []int{27}, false, "above all letters"},
		{grown(step(26)), []int{26}, true, "the greatest letter"},
		{grown(step(1)), []int{math.MinInt}, false, "far below"},
		{grown(step(1)), []int{math.MaxInt}, false, "far above"},
		{grown(step(1)), []int{1 + 1<<32}, false, "a letter, and far above"},
		{grown(seq(step(1), silent(), step(2))), []int{1, 0, 2}, false, "unseen between two is no letter"},
		{grown(seq(step(1), step(2))), []int{1}, false, "a beginning"},
		{grown(seq(step(1), step(2))), []int{2, 1}, false, "the wrong way round"},
		{rounds, []int{1, 2, 1}, true, "twice"},
		{rounds, []int{1, 2}, false, "not at its end"},
		{rounds, []int{1, 1}, false, "what is between lacks"},
		{mixed, []int{2, 1, 4, 3, 3, 5}, true, "block within block"},
		{mixed, []int{2, 3, 1, 5}, false, "too early"},
		{extra, []int{1}, false, "the end, and something beside"},
		{extra, []int{1, 2}, false, "twice the end"},
		{idle(), []int{7}, true, "the one word"},
		{idle(), []int{1, 2, 7}, false, "what comes to nothing"},
	} {
		if got, err := Has(c.n, 0, 1, c.w); got != c.want || err != api.OK {
			t.Errorf("%s: %v, %v", c.what, got, err)
		}
	}
}

// Words that are asked for may be as long as one likes.
func TestLongWords(t *testing.T) {
	n := grown(both(loop(step(1), step(2)), loop(silent(), seq(step(1), step(3)))))
	w := []int{1}
	for range 50000 {
		w = append(w, 1, 2, 3, 1)
	}
	for _, c := range []struct {
		w    []int
		want bool
	}{{w, true}, {append(slices.Clone(w), 2), false}, {append(slices.Clone(w), 1), false}, {w[1:], false}} {
		if got, err := Has(n, 0, 1, c.w); got != c.want || err != api.OK {
			t.Errorf("%d letters: %v, %v", len(c.w), got, err)
		}
	}
}

// There is room for MaxStates marks, and each of them counts.
func TestRoomForMarks(t *testing.T) {
	for steps := range 7 {
		n, o := wide(steps), steps+7
		s, err := reach.Graph(n, shape.Start(n, 0), api.MaxStates)
		if many := 296 + steps; (err == api.OK) != (many <= api.MaxStates) || err == api.OK && len(s.Marks) != many {
			t.Fatalf("%d steps: %d marks, %v", steps, len(s.Marks), err)
		}
		want, least := err, 0
		if want == api.OK {
			least = 17 + steps
		}
		if got, err := Least(n, 0, o); got != least || err != want {
			t.Errorf("%d steps: %d, %v", steps, got, err)
		}
		if got, err := Words(n, 0, o, 8); len(got) != 0 || err != want {
			t.Errorf("%d steps: %v, %v", steps, got, err)
		}
		w := wideWord(steps)
		if got, err := Has(n, 0, o, w); got != (want == api.OK) || err != want {
			t.Errorf("%d steps: %v, %v", steps, got, err)
		}
		for k := range w {
			if got, err := Has(n, 0, o, slices.Delete(slices.Clone(w), k, k+1)); got || err != want {
				t.Errorf("%d steps, letter %d lacks: %v, %v", steps, k, got, err)
			}
			if got, err := Has(n, 0, o, slices.Insert(slices.Clone(w), k, w[k])); got || err != want {
				t.Errorf("%d steps, letter %d twice: %v, %v", steps, k, got, err)
			}
		}
	}
}

// Each number of letters that a shortest word can have: nine tokens go one by one, and so do nine others, and so on.
func TestLeastOfMany(t *testing.T) {
	for many := 1; many <= api.MaxWeight; many++ {
		lines, sum := []line{{0, at(0), times(2, many)}}, 0
		for p := 2; p < 14; p += 2 {
			lines = append(lines, line{p, at(p), at(p + 1)}, line{0, times(p+1, many), times(p+2, many)})
			sum += many
		}
		lines = append(lines, line{0, times(14, many), at(1)})
		if got, err := Least(made(15, lines...), 0, 1); got != sum || err != api.OK {
			t.Errorf("%d tokens: %d, %v, not %d", many, got, err, sum)
		}
	}
}

// What is wrong is told in its order, by all calls, and beside it there is nothing.
func TestErrors(t *testing.T) {
	row := made(3, line{1, at(0), at(2)}, line{2, at(2), at(1)})
	grows := made(3, line{1, at(0), at(2)}, line{2, at(2), at(1, 2, 2)})
	many := grown(both(steps(5)...))
	many.Trans = slices.Concat(many.Trans, slices.Repeat(many.Trans[:1], 18))
	wrong := func(change func(n *api.Net)) api.Net {
		n := made(3, line{1, at(0), at(2)}, line{2, at(2), at(1)})
		change(&n)
		return n
	}
	for _, c := range []struct {
		n    api.Net
		i, o int
		want api.Errno
		what string
	}{
		{wrong(func(n *api.Net) { n.Places = -1 }), 0, 1, api.ErrRange, "-1 places"},
		{wrong(func(n *api.Net) { n.Places = math.MaxInt }), 0, 1, api.ErrRange, "far too many places"},
		{wrong(func(n *api.Net) { n.Trans[0].Label = 27 }), 0, 1, api.ErrRange, "a label above all"},
		{wrong(func(n *api.Net) { n.Trans[1].Label = -1 }), 0, 1, api.ErrRange, "a label below all"},
		{wrong(func(n *api.Net) { n.Trans[1].Pre = nil }), 0, 1, api.ErrRange, "no Pre"},
		{wrong(func(n *api.Net) { n.Trans[0].Post = times(0, 4) }), 0, 1, api.ErrRange, "Post too long"},
		{wrong(func(n *api.Net) { n.Trans[0].Pre[0] = 10 }), 0, 1, api.ErrRange, "a weight above all"},
		{wrong(func(n *api.Net) { n.Trans[0].Pre[0] = -1 }), 0, 1, api.ErrRange, "a weight below all"},
		{api.Net{Trans: make([]api.Tran, 25)}, 0, 1, api.ErrRange, "too many transitions"},
		{many, 0, 1, api.ErrRange, "too many transitions, of a net that is right else"},
		{wrong(func(n *api.Net) { n.Places = 17 }), 5, 5, api.ErrRange, "a wrong net ahead of wrong ends"},
		{api.Net{}, 0, 1, api.ErrForm, "nothing at all"},
		{api.Net{Places: 2}, 0, 1, api.ErrForm, "no way"},
		{row, -1, 1, api.ErrForm, "no such beginning"},
		{row, 0, 3, api.ErrForm, "no such end"},
		{row, math.MinInt, math.MaxInt, api.ErrForm, "neither is there"},
		{row, 0, 0, api.ErrForm, "both are one"},
		{row, 1, 0, api.ErrForm, "the wrong way round"},
		{row, 0, 2, api.ErrForm, "it goes on from there"},
		{made(3, line{1, at(0), at(1)}, line{2, at(2), at(1)}), 0, 1, api.ErrForm, "a place that nothing comes to"},
		{made(3, line{1, at(0), at(1)}, line{2, at(), at(1)}), 0, 1, api.ErrForm, "a transition that takes nothing"},
		{made(3, line{1, at(0), at(2)}, line{2, at(2), at(1, 2, 2)}, line{3, at(1), at(1)}), 0, 1, api.ErrForm, "a wrong form ahead of too many marks"},
		{grows, 0, 1, api.ErrFull, "marks without end"},
		{wide(5), 0, 12, api.ErrFull, "one mark too many"},
	} {
		for _, w := range [][]int{nil, {1}, {1, 2}, {0}, {27}} {
			if got, err := Has(c.n, c.i, c.o, w); got || err != c.want {
				t.Errorf("%s, has %v: %v, %v, not %v", c.what, w, got, err, c.want)
			}
		}
		for _, most := range []int{math.MinInt, -1, 0, 8, 9, math.MaxInt} {
			if got, err := Words(c.n, c.i, c.o, most); len(got) != 0 || err != c.want {
				t.Errorf("%s, words of up to %d: %v, %v, not %v", c.what, most, got, err, c.want)
			}
		}
		if got, err := Least(c.n, c.i, c.o); got != 0 || err != c.want {
			t.Errorf("%s, the shortest one: %v, %v, not %v", c.what, got, err, c.want)
		}
	}
}

func TestTooManyWords(t *testing.T) {
	fives := seq(step(1), step(1), step(1), step(1), step(1))
	for _, c := range []struct {
		n    api.Net
		most int
		many int
		want api.Errno
		what string
	}{
		{grown(step(1)), -1, 0, api.ErrRange, "below no letters"},
		{grown(step(1)), 9, 0, api.ErrRange, "too many letters"},
		{grown(step(1)), math.MinInt, 0, api.ErrRange, "far below"},
		{grown(step(1)), math.MaxInt, 0, api.ErrRange, "far too many"},
		{grown(both(steps(6)...)), 9, 0, api.ErrRange, "a number and too many words"},
		{made(4, line{1, at(0), at(2)}, line{2, at(0), at(3)}, line{3, at(2, 3), at(1)}), 9, 0, api.ErrRange, "a number and no word"},
		{grown(words4()), 8, 400, api.OK, "as many words as may be"},
		{grown(words4()), 4, 400, api.OK, "as many words as may be, and just enough room"},
		{grown(words4()), 3, 0, api.OK, "as many words as may be, all too long"},
		{grown(choice(words4(), silent())), 8, 0, api.ErrFull, "one more, which is the shortest one"},
		{grown(choice(words4(), silent())), 4, 0, api.ErrFull, "one more, and no room behind"},
		{grown(choice(words4(), silent())), 3, 1, api.OK, "one, for the others are too long"},
		{grown(choice(words4(), seq(step(1), step(1), step(1), step(5)))), 8, 0, api.ErrFull, "one more, among the others"},
		{grown(choice(words4(), fives)), 8, 0, api.ErrFull, "one more, which is the longest one"},
		{grown(choice(words4(), fives)), 4, 400, api.OK, "one more, which is too long"},
		{grown(choice(words4(), seq(step(5), step(5), step(4), step(4)))), 8, 400, api.OK, "one twice"},
		{grown(seq(words4(), step(1), step(2), step(3), step(4))), 8, 400, api.OK, "as many words as may be, of as many letters as may be"},
		{grown(both(steps(5)...)), 8, 120, api.OK, "five side by side"},
		{grown(both(steps(6)...)), 5, 0, api.OK, "six side by side, and room for five"},
		{grown(both(steps(6)...)), 6, 0, api.ErrFull, "six side by side"},
		{grown(loop(silent(), choice(steps(2)...))), 7, 255, api.OK, "all words of two letters"},
		{grown(loop(silent(), choice(steps(2)...))), 8, 0, api.ErrFull, "too many words of two letters"},
		{grown(loop(silent(), choice(steps(19)...))), 2, 381, api.OK, "many words of up to two letters"},
		{grown(loop(silent(), choice(steps(20)...))), 2, 0, api.ErrFull, "too many words of up to two letters"},
		{grown(loop(silent(), step(1))), 8, 9, api.OK, "all words of one letter"},
		{crowd(), 7, 0, api.OK, "far too many words, all too long"},
		{crowd(), 8, 0, api.ErrFull, "far too many words, all as long as may be"},
	} {
		got, err := Words(c.n, 0, 1, c.most)
		if err != c.want || len(got) != c.many {
			t.Errorf("%s: %d, %v, not %d, %v", c.what, len(got), err, c.many, c.want)
		}
	}
}

// said is where a run is, and what was seen of it.
type said struct{ mark, word string }

// told is the chapter's words: all words of up to most letters, by runs that are gone one by one, as keys.
func told(n api.Net, i, o, most int) map[string]bool {
	words := map[string]bool{}
	end := fmt.Sprint(shape.Start(n, o))
	been := map[said]bool{}
	var run func(m []int, word string)
	run = func(m []int, word string) {
		here := said{fmt.Sprint(m), word}
		if been[here] {
			return
		}
		been[here] = true
		if here.mark == end {
			words[word] = true
		}
		for t, tran := range n.Trans {
			next, err := net.Fire(n, m, t)
			switch {
			case err != api.OK:
			case tran.Label == 0:
				run(next, word)
			case len(word) < most:
				run(next, word+string([]byte{byte(tran.Label)}))
			}
		}
	}
	run(shape.Start(n, i), "")
	return words
}

// allTexts goes through all texts of up to most letters from 0 to greatest.
func allTexts(most, greatest int, see func(w []int)) {
	var longer func(w []int)
	longer = func(w []int) {
		see(w)
		if len(w) == most {
			return
		}
		for letter := range greatest + 1 {
			longer(append(slices.Clone(w), letter))
		}
	}
	longer(nil)
}

// agrees holds all calls against told, and answers how many words there are; n must be right, and have few enough marks.
func agrees(t *testing.T, n api.Net, i, o, most, greatest int) int {
	t.Helper()
	words := told(n, i, o, most)
	want := inOrder(words)
	got, err := Words(n, i, o, most)
	if len(want) > api.MaxWords {
		if len(got) > 0 || err != api.ErrFull {
			t.Fatalf("%v: %v, %v, not too many", n, got, err)
		}
	} else if err != api.OK || !slices.EqualFunc(got, want, slices.Equal) {
		t.Fatalf("%v, up to %d: %v, %v, not %v", n, most, got, err, want)
	}
	allTexts(min(most, 3), greatest+1, func(w []int) {
		if got, err := Has(n, i, o, w); got != words[keyOf(w)] || err != api.OK {
			t.Fatalf("%v has %v: %v, %v", n, w, got, err)
		}
	})
	if least, err := Least(n, i, o); len(want) > 0 && (least != len(want[0]) || err != api.OK) || len(want) == 0 && err == api.OK && least <= most {
		t.Fatalf("%v: the shortest one has %d, %v", n, least, err)
	}
	return len(want)
}

// inOrder is the chapter's order: the shorter ones first, then letter by letter.
func inOrder(words map[string]bool) [][]int {
	var all [][]int
	for x := range words {
		w := make([]int, len(x))
		for k := range w {
			w[k] = int(x[k])
		}
		all = append(all, w)
	}
	slices.SortFunc(all, func(a, b []int) int {
		return cmp.Or(cmp.Compare(len(a), len(b)), slices.Compare(a, b))
	})
	return all
}

func keyOf(w []int) string {
	x := make([]byte, len(w))
	for i, letter := range w {
		x[i] = byte(letter)
	}
	return string(x)
}

// fits tells whether n is one that has words to tell, from place 0 to place 1.
func fits(n api.Net) bool {
	if shape.Wrong(n, 0, 1) != api.OK {
		return false
	}
	_, err := reach.Graph(n, shape.Start(n, 0), api.MaxStates)
	return err == api.OK
}

// All nets of three places and two transitions, with weights of up to 1 and labels of up to 2; and of three transitions those with the last one unseen.
func TestAllSmallNets(t *testing.T) {
	var all []api.Tran
	for label := range 3 {
		for x := range 16 {
			all = append(all, api.Tran{Label: label, Pre: []int{x & 1, 0, x >> 1 & 1}, Post: []int{0, x >> 2 & 1, x >> 3}})
		}
	}
	none, some := 0, 0
	look := func(trans ...api.Tran) {
		n := api.Net{Places: 3, Trans: trans}
		if !fits(n) {
			return
		}
		if agrees(t, n, 0, 1, 3, 2) == 0 {
			none++
		} else {
			some++
		}
	}
	for _, a := range all {
		for _, b := range all {
			look(a, b)
			for _, c := range all[:16] {
				look(a, b, c)
			}
		}
	}
	if none < 100 || some < 100 {
		t.Errorf("%d have no word, %d some: too few to tell", none, some)
	}
}

// chance answers numbers that look like chance, but are the same each time.
func chance(seed uint32) func(below int) int {
	return func(below int) int {
		seed = seed*1664525 + 1013904223
		return int(seed>>8) % below
	}
}

// anyBlock is that many blocks at most, of up to three labels.
func anyBlock(next func(below int) int, many int) api.Block {
	if many < 3 {
		if next(6) == 0 {
			return silent()
		}
		return step(1 + next(3))
	}
	first := 1 + next(many-2)
	return api.Block{Kind: api.Seq + next(4), Kids: []api.Block{anyBlock(next, first), anyBlock(next, many-1-first)}}
}

// anyNet has ways from place 0 to place 1 that cross; most come to nothing.
func anyNet(next func(below int) int) api.Net {
	places := 3 + next(4)
	n := api.Net{Places: places}
	for range 2 + next(6) {
		tran := api.Tran{Label: next(4), Pre: make([]int, places), Post: make([]int, places)}
		for p := range places {
			if p != 1 && next(places) == 0 {
				tran.Pre[p] = 1 + next(4)/3
			}
			if p != 0 && next(places) == 0 {
				tran.Post[p] = 1 + next(4)/3
			}
		}
		n.Trans = append(n.Trans, tran)
	}
	return n
}

// crossed is a net of blocks with some more transitions, that lead from anywhere to anywhere: most come to something.
func crossed(next func(below int) int) api.Net {
	n, err := grow.Grow(anyBlock(next, 3+next(10)))
	if err != api.OK {
		return api.Net{}
	}
	for range 1 + next(3) {
		tran := api.Tran{Label: next(4), Pre: make([]int, n.Places), Post: make([]int, n.Places)}
		tran.Pre[next(n.Places)] = 1
		tran.Post[next(n.Places)] = 1
		if next(3) == 0 {
			tran.Pre[next(n.Places)] = 1 + next(2)
		}
		if next(3) == 0 {
			tran.Post[next(n.Places)] = 1 + next(2)
		}
		n.Trans = append(n.Trans, tran)
	}
	return n
}

func TestAnyNets(t *testing.T) {
	for _, c := range []struct {
		any              func(next func(below int) int) api.Net
		none, some, many int // at least
	}{{anyNet, 200, 30, 0}, {crossed, 20, 200, 30}} {
		next := chance(12)
		none, some, many, full := 0, 0, 0, 0
		for none+some+many < 400 {
			n := c.any(next)
			if shape.Wrong(n, 0, 1) != api.OK {
				continue
			}
			if !fits(n) {
				full++
				if _, err := Least(n, 0, 1); err != api.ErrFull {
					t.Fatalf("%v: %v, not too many marks", n, err)
				}
				continue
			}
			switch words := agrees(t, n, 0, 1, max(next(7), next(7)), 3); {
			case words == 0:
				none++
			case words < 10:
				some++
			default:
				many++
			}
		}
		if none < c.none || some < c.some || many < c.many || full < 40 {
			t.Errorf("%d have no word, %d some, %d many, %d too many marks: too few to tell", none, some, many, full)
		}
	}
}

// What is built of blocks says what its blocks say.
func TestBlocks(t *testing.T) {
	next := chance(5)
	some, full := 0, 0
	for range 1000 {
		b := anyBlock(next, 3+next(20))
		n, err := grow.Grow(b)
		if err != api.OK || !fits(n) {
			continue
		}
		most := max(next(9), next(9))
		want, wantErr := blocks.Words(b, most)
		got, err := Words(n, 0, 1, most)
		if err != wantErr || !slices.EqualFunc(got, want, slices.Equal) {
			t.Fatalf("%v, up to %d: %v, %v, not %v, %v", b, most, got, err, want, wantErr)
		}
		some += min(len(want), 1)
		if wantErr != api.OK {
			full++
		}
		allTexts(2, 3, func(w []int) {
			if got, err := Has(n, 0, 1, w); got != blocks.Has(b, w) || err != api.OK {
				t.Fatalf("%v has %v: %v, %v", b, w, got, err)
			}
		})
		if least, err := Least(n, 0, 1); err != api.OK || len(want) > 0 && least != len(want[0]) || len(want) == 0 && wantErr == api.OK && least <= most {
			t.Fatalf("%v: the shortest one has %d, %v", b, least, err)
		}
	}
	if some < 300 || full < 5 {
		t.Errorf("%d have words, %d too many: too few to tell", some, full)
	}
}

// nil and empty words are the same.
func TestNothing(t *testing.T) {
	for _, b := range []api.Block{silent(), step(1)} {
		for _, w := range [][]int{nil, {}} {
			if got, err := Has(grown(b), 0, 1, w); got != (b.Kind == api.Silent) || err != api.OK {
				t.Errorf("%v, %v: %v, %v", b, w, got, err)
			}
		}
	}
	for _, l := range [][]api.Tran{nil, {}} {
		if _, err := Least(api.Net{Places: 2, Trans: l}, 0, 1); err != api.ErrForm {
			t.Errorf("%v: %v", l, err)
		}
	}
}

// Behind the end of a list there may be spare room: it is neither looked at nor changed.
func TestSpareRoom(t *testing.T) {
	spare := func() (api.Net, []int) {
		n := made(3, line{1, at(0), at(2)}, line{2, at(2), at(1)}, line{3, at(0), at(1)})
		n.Trans = n.Trans[:2]
		for k := range n.Trans {
			tran := &n.Trans[k]
			tran.Pre = append(tran.Pre, 77, 88)[:3]
			tran.Post = append(tran.Post, 77, 88)[:3]
		}
		return n, []int{1, 2, 99}[:2]
	}
	n, w := spare()
	if got, err := Has(n, 0, 1, w); !got || err != api.OK {
		t.Errorf("%v, %v", got, err)
	}
	if got, err := Words(n, 0, 1, 8); err != api.OK || !reflect.DeepEqual(got, [][]int{{1, 2}}) {
		t.Errorf("%v, %v", got, err)
	}
	if got, err := Least(n, 0, 1); got != 2 || err != api.OK {
		t.Errorf("%v, %v", got, err)
	}
	was, wWas := spare()
	if !reflect.DeepEqual(n.Trans[:3], was.Trans[:3]) || !slices.Equal(w[:3], wWas[:3]) {
		t.Errorf("what was handed in was changed: %v, %v", n, w)
	}
	for k := range n.Trans {
		a, b := n.Trans[k], was.Trans[k]
		if !slices.Equal(a.Pre[:5], b.Pre[:5]) || !slices.Equal(a.Post[:5], b.Post[:5]) {
			t.Errorf("spare room of transition %d was changed", k)
		}
	}
}

// What is answered is the caller's, and nothing is kept: the next answer is the net's as it is then.
func TestAnswersAreNew(t *testing.T) {
	n := made(2, line{1, at(0), at(1)}, line{2, at(0), at(1)})
	first, _ := Words(n, 0, 1, 8)
	first[0][0], first[1] = 55, nil
	again, err := Words(n, 0, 1, 8)
	if err != api.OK || !reflect.DeepEqual(again, [][]int{{1}, {2}}) {
		t.Errorf("an answer was changed, and then comes %v, %v", again, err)
	}
	n.Trans[0].Label, n.Trans[1].Label = 9, 0
	if !reflect.DeepEqual(again, [][]int{{1}, {2}}) {
		t.Errorf("the net was changed, and its words became %v", again)
	}
	if got, err := Words(n, 0, 1, 8); err != api.OK || !slices.EqualFunc(got, [][]int{nil, {9}}, slices.Equal) {
		t.Errorf("the net was changed, but not its words: %v, %v", got, err)
	}
}

// Whoever changes one word of an answer, or goes on behind its end, changes no other one.
func TestListsOfOneAnswer(t *testing.T) {
	n := grown(loop(silent(), choice(step(1), step(2))))
	same, _ := Words(n, 0, 1, 5)
	for k := range same {
		want, _ := Words(n, 0, 1, 5)
		got, _ := Words(n, 0, 1, 5)
		longer := got[k]
		for range 8 {
			longer = append(longer, 88)
		}
		for i := range got[k] {
			got[k][i], want[k][i] = 99, 99
		}
		if !slices.EqualFunc(got, want, slices.Equal) {
			t.Errorf("word %d: %v, not %v", k, got, want)
		}
	}
}

func ExampleHas() {
	n := api.Net{Places: 3, Trans: []api.Tran{
		{Label: 1, Pre: []int{1, 0, 0}, Post: []int{0, 1, 0}},
		{Label: 0, Pre: []int{0, 1, 0}, Post: []int{0, 0, 1}},
	}}
	has, err := Has(n, 0, 2, []int{1})
	fmt.Println(has, err == api.OK)
	// Output: true true
}

func ExampleWords() {
	a, b := api.Block{Kind: api.Step, Label: 1}, api.Block{Kind: api.Step, Label: 2}
	n, _ := grow.Grow(api.Block{Kind: api.Both, Kids: []api.Block{a, b}})
	words, err := Words(n, 0, 1, 8)
	fmt.Println(words, err == api.OK)
	// Output: [[1 2] [2 1]] true
}

func ExampleLeast() {
	a, b := api.Block{Kind: api.Step, Label: 1}, api.Block{Kind: api.Step, Label: 2}
	n, _ := grow.Grow(api.Block{Kind: api.Loop, Kids: []api.Block{a, b}})
	least, err := Least(n, 0, 1)
	fmt.Println(least, err == api.OK)
	// Output: 1 true
}
