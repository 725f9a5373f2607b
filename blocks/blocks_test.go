package blocks

import (
	"cmp"
	"fmt"
	"maps"
	"math"
	"reflect"
	"slices"
	"testing"

	"tokenhall/api"
)

func step(label int) api.Block             { return api.Block{Kind: api.Step, Label: label} }
func silent() api.Block                    { return api.Block{Kind: api.Silent} }
func seq(kids ...api.Block) api.Block      { return api.Block{Kind: api.Seq, Kids: kids} }
func choice(kids ...api.Block) api.Block   { return api.Block{Kind: api.Choice, Kids: kids} }
func both(kids ...api.Block) api.Block     { return api.Block{Kind: api.Both, Kids: kids} }
func loop(kids ...api.Block) api.Block     { return api.Block{Kind: api.Loop, Kids: kids} }
func kind(k int, l ...api.Block) api.Block { return api.Block{Kind: k, Kids: l} }

// steps are steps with the labels from 1 on.
func steps(many int) []api.Block {
	var l []api.Block
	for label := range many {
		l = append(l, step(label%api.MaxLabel+1))
	}
	return l
}

// deep is a step within as many blocks of that kind as it takes to be many blocks.
func deep(k, many int) api.Block {
	b := step(1)
	for range many - 1 {
		b = kind(k, b)
	}
	return b
}

// words4 has 5 times 5 times 4 times 4 words, all of four letters.
func words4() api.Block {
	return seq(choice(steps(5)...), choice(steps(5)...), choice(steps(4)...), choice(steps(4)...))
}

func TestWrong(t *testing.T) {
	const ok, form, rng, full, none = api.OK, api.ErrForm, api.ErrRange, api.ErrFull, api.ErrKind
	for _, c := range []struct {
		b    api.Block
		want api.Errno
		what string
	}{
		{silent(), ok, "Silent"},
		{step(1), ok, "the least label"},
		{step(26), ok, "the greatest label"},
		{seq(step(1)), ok, "a Seq of one"},
		{choice(step(1)), ok, "a Choice of one"},
		{both(step(1)), ok, "a Both of one"},
		{loop(step(1), silent()), ok, "a Loop"},
		{seq(step(1), choice(both(step(2), silent()), loop(step(3), step(3)))), ok, "block within block"},

		{api.Block{}, none, "nothing at all"},
		{kind(-1), none, "a kind below all"},
		{kind(7, step(1), step(2)), none, "a kind above all"},
		{kind(math.MinInt), none, "a kind far below all"},
		{kind(math.MaxInt), none, "a kind far above all"},
		{api.Block{Kind: 7, Label: 99}, none, "a kind that is none has no label"},
		{step(0), rng, "a label below all"},
		{step(27), rng, "a label above all"},
		{step(math.MinInt), rng, "a label far below all"},
		{step(math.MaxInt), rng, "a label far above all"},
		{api.Block{Kind: api.Step, Label: 27, Kids: steps(1)}, rng, "the label ahead of the form"},
		{api.Block{Kind: api.Step, Label: 1, Kids: steps(1)}, form, "a step with something within"},
		{kind(api.Silent, silent()), form, "Silent with something within"},
		{seq(), form, "an empty Seq"},
		{choice(), form, "an empty Choice"},
		{both(), form, "an empty Both"},
		{loop(), form, "an empty Loop"},
		{loop(step(1)), form, "a Loop of one"},
		{loop(steps(3)...), form, "a Loop of three"},
		{loop(steps(100)...), form, "a Loop of many: it comes ahead of those within"},

		{api.Block{Kind: api.Silent, Label: 99}, ok, "Silent has no label, whatever stands there"},
		{api.Block{Kind: api.Seq, Label: -5, Kids: steps(1)}, ok, "nor has a Seq"},
		{api.Block{Kind: api.Choice, Label: -5, Kids: steps(1)}, ok, "nor has a Choice"},
		{api.Block{Kind: api.Both, Label: -5, Kids: steps(1)}, ok, "nor has a Both"},
		{api.Block{Kind: api.Loop, Label: -5, Kids: steps(2)}, ok, "nor has a Loop"},

		{loop(step(0)), form, "the outer one ahead of the inner one"},
		{seq(step(0), kind(0), seq()), rng, "the first one of three: a step"},
		{seq(kind(0), step(0), seq()), none, "the first one of three: a kind"},
		{seq(seq(), step(0), kind(0)), form, "the first one of three: an empty one"},
		{seq(seq(step(1), step(27)), seq()), rng, "what is within the first one ahead of the second one"},
		{seq(step(1), loop(step(2), choice(step(3), seq(both()))), kind(9)), form, "deep within"},

		{seq(steps(39)...), ok, "as many as may be, in a row"},
		{seq(steps(40)...), full, "one more, in a row"},
		{choice(steps(1000)...), full, "far more"},
		{deep(api.Seq, 40), ok, "as many as may be, one within the other"},
		{deep(api.Seq, 41), full, "one more, one within the other"},
		{deep(api.Both, 1<<16), full, "far more, one within the other"},
		{seq(deep(api.Seq, 20), deep(api.Choice, 19)), ok, "as many as may be, in two"},
		{seq(deep(api.Seq, 20), deep(api.Choice, 20)), full, "one more, in two"},
		{seq(append(steps(39), kind(0))...), full, "too many, ahead of a kind that is none"},
		{seq(append(steps(39), step(0))...), full, "too many, ahead of a label that is none"},
		{seq(append(steps(39), seq())...), full, "too many, ahead of a form that is none"},
		{seq(append(steps(38), seq())...), form, "the last one that may be is wrong"},
		{seq(append(steps(38), kind(0), step(1))...), none, "the last one that may be is wrong, and there are too many"},
		{seq(append(steps(38), seq(step(0)))...), full, "the last one that may be has one within"},
		{seq(append([]api.Block{step(0)}, steps(99)...)...), rng, "a wrong one ahead of too many"},
		{deep(api.Loop, 41), form, "Loops of one, one within the other"},
	} {
		if got := Wrong(c.b); got != c.want {
			t.Errorf("%s: %v, not %v", c.what, got, c.want)
		}
		if c.want == api.OK {
			continue
		}
		for _, w := range [][]int{nil, {1}, {1, 2}} {
			if Has(c.b, w) {
				t.Errorf("%s: it has %v", c.what, w)
			}
		}
		for _, most := range []int{-1, 0, 8, 9} {
			if got, err := Words(c.b, most); err != c.want || len(got) > 0 {
				t.Errorf("%s, words: %v, %v, not %v", c.what, got, err, c.want)
			}
		}
	}
}

// Blocks that are within themselves have no end, but the answer comes.
func TestWithinItself(t *testing.T) {
	for _, k := range []int{api.Seq, api.Choice, api.Both, api.Loop} {
		kids := []api.Block{step(1), step(2)}
		kids[1] = kind(k, kids...)
		kids[1].Kids = kids
		if got := Wrong(kids[1]); got != api.ErrFull {
			t.Errorf("kind %d: %v", k, got)
		}
		if Has(kids[1], []int{1}) {
			t.Errorf("kind %d has a word", k)
		}
	}
}

func TestWords(t *testing.T) {
	star := loop(silent(), choice(step(1), step(2)))
	for _, c := range []struct {
		b    api.Block
		most int
		want [][]int
		what string
	}{
		{silent(), 0, [][]int{{}}, "Silent"},
		{silent(), 8, [][]int{{}}, "Silent, and room"},
		{step(5), 0, nil, "a step, and no room"},
		{step(5), 1, [][]int{{5}}, "a step"},
		{step(26), 8, [][]int{{26}}, "the greatest label, and room"},
		{seq(step(2), step(1)), 1, nil, "two steps, and room for one"},
		{seq(step(2), step(1)), 2, [][]int{{2, 1}}, "two steps"},
		{seq(step(2), silent(), step(1), step(2)), 8, [][]int{{2, 1, 2}}, "three steps, and what nobody sees"},
		{seq(choice(step(3), step(1)), choice(step(2), silent())), 8, [][]int{{1}, {3}, {1, 2}, {3, 2}}, "the shorter ones first, then rising"},
		{choice(step(3), silent(), step(1), step(3)), 8, [][]int{{}, {1}, {3}}, "each once"},
		{choice(seq(step(1), step(1)), step(2)), 8, [][]int{{2}, {1, 1}}, "a shorter one with a greater letter"},
		{choice(seq(step(1), step(10)), seq(step(1), step(9)), seq(step(10), step(1))), 8, [][]int{{1, 9}, {1, 10}, {10, 1}}, "letters are numbers"},
		{choice(seq(step(1), step(2)), seq(step(1), step(2)), step(1)), 1, [][]int{{1}}, "those that are too long are left out"},
		{both(step(1), seq(step(2), step(3))), 8, [][]int{{1, 2, 3}, {2, 1, 3}, {2, 3, 1}}, "the document's tenth example"},
		{both(step(2), step(1)), 8, [][]int{{1, 2}, {2, 1}}, "side by side"},
		{both(step(1), step(1)), 8, [][]int{{1, 1}}, "side by side, and the same"},
		{both(step(1), silent()), 8, [][]int{{1}}, "beside what nobody sees"},
		{both(seq(step(1), step(2)), seq(step(1), step(2))), 8, [][]int{{1, 1, 2, 2}, {1, 2, 1, 2}}, "two that begin in the same way"},
		{both(step(1), both(step(2), step(3))), 8, [][]int{{1, 2, 3}, {1, 3, 2}, {2, 1, 3}, {2, 3, 1}, {3, 1, 2}, {3, 2, 1}}, "side by side within side by side"},
		{seq(both(step(1), step(2)), step(3)), 8, [][]int{{1, 2, 3}, {2, 1, 3}}, "behind what is side by side"},
		{loop(step(1), step(2)), 6, [][]int{{1}, {1, 2, 1}, {1, 2, 1, 2, 1}}, "a Loop"},
		{loop(step(1), silent()), 3, [][]int{{1}, {1, 1}, {1, 1, 1}}, "once or more"},
		{loop(silent(), step(1)), 3, [][]int{{}, {1}, {1, 1}, {1, 1, 1}}, "as often as one likes"},
		{loop(silent(), silent()), 8, [][]int{{}}, "a Loop that nobody sees"},
		{loop(loop(silent(), silent()), loop(silent(), silent())), 8, [][]int{{}}, "Loops that nobody sees, one within the other"},
		{loop(choice(step(1), silent()), choice(step(2), silent())), 1, [][]int{{}, {1}, {2}}, "all may be left out"},
		{loop(both(step(1), step(2)), step(3)), 5, [][]int{{1, 2}, {2, 1}, {1, 2, 3, 1, 2}, {1, 2, 3, 2, 1}, {2, 1, 3, 1, 2}, {2, 1, 3, 2, 1}}, "side by side, again and again"},
		{both(loop(step(1), step(2)), step(3)), 4, [][]int{{1, 3}, {3, 1}, {1, 2, 1, 3}, {1, 2, 3, 1}, {1, 3, 2, 1}, {3, 1, 2, 1}}, "a Loop side by side with a step"},
		{star, 0, [][]int{{}}, "all words without letters"},
		{star, 2, [][]int{{}, {1}, {2}, {1, 1}, {1, 2}, {2, 1}, {2, 2}}, "all words of up to two letters"},
		{both(steps(26)...), 8, nil, "many beginnings, but no word that is short enough"},
		{both(slices.Repeat([]api.Block{step(7)}, 39)...), 8, nil, "the same 39 times is too long"},
		{both(slices.Repeat([]api.Block{step(7)}, 8)...), 8, [][]int{{7, 7, 7, 7, 7, 7, 7, 7}}, "as many letters as may be"},
		{both(slices.Repeat([]api.Block{step(7)}, 8)...), 7, nil, "one letter too many"},
		{deep(api.Both, 40), 8, [][]int{{1}}, "as many blocks as may be"},
	} {
		got, err := Words(c.b, c.most)
		if err != api.OK || !slices.EqualFunc(got, c.want, slices.Equal) {
			t.Errorf("%s: %v, %v, not %v", c.what, got, err, c.want)
		}
		for _, w := range c.want {
			if !Has(c.b, w) {
				t.Errorf("%s: it has not %v", c.what, w)
			}
		}
	}
}

// Beside an error there are no words; what is wrong with the block is told first, then what is wrong with the number.
func TestWordsErrors(t *testing.T) {
	for _, c := range []struct {
		b    api.Block
		most int
		many int
		want api.Errno
		what string
	}{
		{step(1), -1, 0, api.ErrRange, "below no letters"},
		{step(1), 9, 0, api.ErrRange, "too many letters"},
		{step(1), math.MinInt, 0, api.ErrRange, "far below"},
		{step(1), math.MaxInt, 0, api.ErrRange, "far too many"},
		{step(27), 9, 0, api.ErrRange, "a label and a number"},
		{seq(), 9, 0, api.ErrForm, "a form and a number"},
		{api.Block{}, -1, 0, api.ErrKind, "a kind and a number"},
		{seq(steps(40)...), 9, 0, api.ErrFull, "too many blocks and a number"},
		{both(steps(8)...), 9, 0, api.ErrRange, "a number and too many words"},
		{words4(), 8, 400, api.OK, "as many words as may be"},
		{words4(), 3, 0, api.OK, "as many words as may be, all too long"},
		{choice(words4(), silent()), 8, 0, api.ErrFull, "one more, which is the shortest one"},
		{choice(words4(), silent()), 4, 0, api.ErrFull, "one more, and no room behind"},
		{choice(words4(), silent()), 3, 1, api.OK, "one, for the others are too long"},
		{choice(words4(), seq(step(1), step(1), step(1), step(5))), 8, 0, api.ErrFull, "one more, among the others"},
		{choice(words4(), seq(step(1), step(1), step(1), step(1), step(1))), 8, 0, api.ErrFull, "one more, which is the longest one"},
		{choice(words4(), seq(step(1), step(1), step(1), step(1), step(1))), 4, 400, api.OK, "one more, which is too long"},
		{choice(words4(), seq(step(5), step(5), step(4), step(4))), 8, 400, api.OK, "one twice"},
		{seq(words4(), step(1), step(2), step(3), step(4)), 8, 400, api.OK, "as many words as may be, of as many letters as may be"},
		{both(steps(5)...), 8, 120, api.OK, "five side by side"},
		{both(steps(6)...), 5, 0, api.OK, "six side by side, and room for five"},
		{both(steps(6)...), 6, 0, api.ErrFull, "six side by side"},
		{both(steps(8)...), 8, 0, api.ErrFull, "eight side by side"},
		{loop(silent(), choice(steps(2)...)), 7, 255, api.OK, "all words of two letters"},
		{loop(silent(), choice(steps(2)...)), 8, 0, api.ErrFull, "too many words of two letters"},
		{loop(silent(), choice(steps(26)...)), 1, 27, api.OK, "all letters"},
		{loop(silent(), choice(steps(26)...)), 8, 0, api.ErrFull, "all words"},
		{loop(silent(), step(1)), 8, 9, api.OK, "all words of one letter"},
	} {
		got, err := Words(c.b, c.most)
		if err != c.want || len(got) != c.many {
			t.Errorf("%s: %d, %v, not %d, %v", c.what, len(got), err, c.many, c.want)
		}
	}
}

func TestHas(t *testing.T) {
	mixed := seq(both(step(1), step(2)), loop(choice(step(3), step(4)), silent()), step(5))
	for _, c := range []struct {
		b    api.Block
		w    []int
		want bool
		what string
	}{
		{silent(), nil, true, "nothing is Silent"},
		{silent(), []int{1}, false, "Silent has no letters"},
		{silent(), []int{0}, false, "a letter that is none is not Silent"},
		{step(1), nil, false, "a step is not left out"},
		{step(1), []int{1, 1}, false, "a step is not done twice"},
		{step(1), []int{0}, false, "a letter below all"},
		{step(1), []int{27}, false, "a letter above all"},
		{step(1), []int{-1}, false, "a letter below 0"},
		{step(1), []int{math.MinInt}, false, "a letter far below all"},
		{step(1), []int{math.MaxInt}, false, "a letter far above all"},
		{step(1), []int{1, 0}, false, "a letter that is none behind a word"},
		{seq(silent(), step(1)), []int{0, 1}, false, "what nobody sees is no letter"},
		{seq(step(1), step(2)), []int{2, 1}, false, "the wrong way round"},
		{seq(step(1), step(2)), []int{1}, false, "a beginning"},
		{choice(step(1), step(2)), []int{1, 2}, false, "both of a Choice"},
		{choice(seq(step(1), step(2)), seq(step(1), step(3))), []int{1, 3}, true, "the second one begins in the same way"},
		{both(step(1), step(2)), []int{1}, false, "one of both"},
		{both(seq(step(1), step(2)), seq(step(3), step(4))), []int{3, 1, 2, 4}, true, "mixed"},
		{both(seq(step(1), step(2)), seq(step(3), step(4))), []int{1, 4, 2, 3}, false, "one of both is not in its order"},
		{both(seq(step(1), step(2)), seq(step(1), step(3))), []int{1, 3, 1, 2}, true, "the first letter is the second one's"},
		{both(seq(step(1), step(2)), seq(step(1), step(3))), []int{1, 2, 3, 1}, false, "the third letter has none ahead of it"},
		{mixed, []int{2, 1, 4, 3, 3, 5}, true, "block within block"},
		{mixed, []int{2, 1, 5}, false, "a Loop is not left out"},
		{mixed, []int{2, 3, 1, 5}, false, "a Loop begins too early"},
		{loop(step(1), step(2)), []int{1, 2}, false, "a Loop ends with its first part"},
		{loop(step(1), step(2)), []int{1, 1}, false, "the second part lacks"},
		{loop(step(1), step(2)), []int{2, 1}, false, "a Loop begins with its first part"},
		{loop(choice(step(1), silent()), step(2)), []int{2, 2, 1, 2}, true, "the first part may be left out"},
		{loop(step(1), choice(step(2), silent())), []int{1, 1, 2, 1}, true, "the second part may be left out"},
		{loop(step(1), choice(step(2), silent())), []int{1, 2, 2, 1}, false, "the first part may not be left out"},
		{loop(loop(step(1), step(2)), step(3)), []int{1, 2, 1, 3, 1}, true, "a Loop within a Loop"},
		{loop(loop(step(1), step(2)), step(3)), []int{1, 2, 3, 1}, false, "the inner one is not at its end"},
		{both(loop(step(1), step(2)), loop(step(1), step(3))), []int{1, 1, 2, 3, 1, 1}, true, "two Loops side by side"},
		{both(loop(step(1), step(2)), loop(step(1), step(3))), []int{1, 2, 3, 1, 1}, false, "one of them has not begun"},
		{both(steps(26)...), []int{26, 25, 24, 23, 22, 21, 20, 19, 18, 17, 16, 15, 14, 13, 12, 11, 10, 9, 8, 7, 6, 5, 4, 3, 2, 1}, true, "longer than words that are listed"},
		{both(slices.Repeat([]api.Block{step(1)}, 39)...), slices.Repeat([]int{1}, 39), true, "the same 39 times"},
		{both(slices.Repeat([]api.Block{step(1)}, 39)...), slices.Repeat([]int{1}, 38), false, "the same 38 times"},
		{both(slices.Repeat([]api.Block{step(1)}, 39)...), slices.Repeat([]int{1}, 40), false, "the same 40 times"},
	} {
		if got := Has(c.b, c.w); got != c.want {
			t.Errorf("%s: %v", c.what, got)
		}
	}
}

// Words may be as long as one likes.
func TestLongWords(t *testing.T) {
	b := both(loop(step(1), step(2)), loop(silent(), seq(step(1), step(3))))
	w := []int{1}
	for range 50000 {
		w = append(w, 1, 2, 3, 1)
	}
	if !Has(b, w) {
		t.Error("a long word is not found")
	}
	if Has(b, append(w, 2)) || Has(b, append(w, 1)) || Has(b, w[1:]) {
		t.Error("a long text is no word, and is found")
	}
}

// Where each letter may be one's or another's, there are many ways to do it; but the answer comes.
func TestManyWays(t *testing.T) {
	b := both(seq(both(steps(12)...), step(25)), seq(both(steps(12)...), step(26)))
	var once []int
	for label := range 12 {
		once = append(once, label+1)
	}
	for _, c := range []struct {
		w    []int
		want bool
	}{
		{slices.Concat(once, once, []int{26, 25}), true},
		{slices.Concat(once, once, []int{25, 25}), false},
		{slices.Concat(once, []int{25}, once, []int{26}), true},
		{slices.Concat(once, []int{25, 26}, once), false},
		{slices.Concat(once[:11], []int{25}, once[11:], once, []int{26}), false},
	} {
		if got := Has(b, c.w); got != c.want {
			t.Errorf("%v: %v", c.w, got)
		}
	}
}

// text is a word as a map's key.
type text = string

// told is the chapter's words: all words of b of up to most letters.
func told(b api.Block, most int) map[text]bool {
	words := map[text]bool{}
	switch b.Kind {
	case api.Silent:
		words[""] = true
	case api.Step:
		if most > 0 {
			words[string([]byte{byte(b.Label)})] = true
		}
	case api.Choice:
		for _, kid := range b.Kids {
			maps.Copy(words, told(kid, most))
		}
	case api.Seq:
		words[""] = true
		for _, kid := range b.Kids {
			words = joined(words, told(kid, most), most, behind)
		}
	case api.Both:
		words[""] = true
		for _, kid := range b.Kids {
			words = joined(words, told(kid, most), most, mixed)
		}
	case api.Loop:
		words = told(b.Kids[0], most)
		ahead := joined(words, told(b.Kids[1], most), most, behind)
		for many := -1; many < len(words); {
			many = len(words)
			maps.Copy(words, joined(ahead, words, most, behind))
		}
	}
	return words
}

// joined is what comes of a word of each, of up to most letters.
func joined(a, b map[text]bool, most int, join func(ahead, v, w text, add func(text))) map[text]bool {
	words := map[text]bool{}
	for v := range a {
		for w := range b {
			if len(v)+len(w) <= most {
				join("", v, w, func(x text) { words[x] = true })
			}
		}
	}
	return words
}

// behind adds ahead, v behind it, and w behind that.
func behind(ahead, v, w text, add func(text)) {
	add(ahead + v + w)
}

// mixed adds ahead with all that v and w are, mixed, behind it.
func mixed(ahead, v, w text, add func(text)) {
	if v == "" || w == "" {
		add(ahead + v + w)
		return
	}
	mixed(ahead+v[:1], v[1:], w, add)
	mixed(ahead+w[:1], v, w[1:], add)
}

// inOrder is words as lists, in the order that is promised.
func inOrder(words map[text]bool) [][]int {
	var l [][]int
	for w := range words {
		x := []int{}
		for _, letter := range []byte(w) {
			x = append(x, int(letter))
		}
		l = append(l, x)
	}
	slices.SortFunc(l, func(a, b []int) int {
		return cmp.Or(cmp.Compare(len(a), len(b)), slices.Compare(a, b))
	})
	return l
}

// allTexts calls do with all lists of up to most letters from 0 to the greatest one.
func allTexts(most, greatest int, do func(w []int)) {
	var longer func(w []int)
	longer = func(w []int) {
		do(w)
		if len(w) == most {
			return
		}
		for letter := range greatest + 1 {
			longer(append(slices.Clone(w), letter))
		}
	}
	longer(nil)
}

// agrees holds one block against the chapter's words, and answers how many words it has.
func agrees(t *testing.T, b api.Block, most, greatest int) int {
	t.Helper()
	words := told(b, most)
	got, err := Words(b, most)
	if len(words) > api.MaxWords {
		if err != api.ErrFull || len(got) > 0 {
			t.Fatalf("%v, most %d: %v, %v, but it has %d words", b, most, got, err, len(words))
		}
	} else if want := inOrder(words); err != api.OK || !slices.EqualFunc(got, want, slices.Equal) {
		t.Fatalf("%v, most %d: %v, %v, not %v", b, most, got, err, want)
	}
	allTexts(min(most, []int{0, 6, 5, 4, 3}[greatest]), greatest, func(w []int) {
		x := make([]byte, len(w))
		for i, letter := range w {
			x[i] = byte(letter)
		}
		if got := Has(b, w); got != words[string(x)] {
			t.Fatalf("%v has %v: %v", b, w, got)
		}
	})
	return len(words)
}

// blocksOf answers all right blocks that are that many, of the labels 1 and 2, with Kids of up to three.
func blocksOf(many int) []api.Block {
	if many == 1 {
		return []api.Block{silent(), step(1), step(2)}
	}
	var all []api.Block
	for _, kids := range rows(many-1, 3) {
		all = append(all, seq(kids...), choice(kids...), both(kids...))
		if len(kids) == 2 {
			all = append(all, loop(kids...))
		}
	}
	return all
}

// rows answers all rows of up to most blocks, that are that many with all within.
func rows(many, most int) [][]api.Block {
	if many == 0 {
		return [][]api.Block{nil}
	}
	if most == 0 {
		return nil
	}
	var all [][]api.Block
	for first := 1; first <= many; first++ {
		for _, b := range blocksOf(first) {
			for _, others := range rows(many-first, most-1) {
				all = append(all, append([]api.Block{b}, others...))
			}
		}
	}
	return all
}

func TestAllSmallBlocks(t *testing.T) {
	for many := 1; many <= 5; many++ {
		all := blocksOf(many)
		for _, b := range all {
			if Wrong(b) != api.OK {
				t.Fatalf("%v is wrong", b)
			}
			agrees(t, b, 4, 2)
		}
		if len(all) == 0 {
			t.Errorf("there is none of %d blocks", many)
		}
	}
}

// grown answers a block that is that many, with all within.
func grown(many, labels int, next func(below int) int) api.Block {
	if many == 1 {
		if next(5) == 0 {
			return silent()
		}
		return step(1 + next(labels))
	}
	k := api.Seq + next(4)
	if k == api.Loop && many < 3 {
		k = api.Both
	}
	parts := []int{1, 1}
	if k != api.Loop {
		parts = slices.Repeat([]int{1}, 1+next(min(many-1, 4)))
	}
	for range many - 1 - len(parts) {
		parts[next(len(parts))]++
	}
	b := api.Block{Kind: k, Label: next(99)}
	for _, part := range parts {
		b.Kids = append(b.Kids, grown(part, labels, next))
	}
	return b
}

func TestGreaterBlocks(t *testing.T) {
	seed := uint32(3)
	next := func(below int) int {
		seed = seed*1664525 + 1013904223
		return int(seed>>8) % below
	}
	none, some, full := 0, 0, 0
	for range 3000 {
		labels := 1 + next(4)
		b := grown(6+next(14), labels, next)
		switch many := agrees(t, b, max(next(9), next(9)), labels); {
		case many == 0:
			none++
		case many <= api.MaxWords:
			some++
		default:
			full++
		}
	}
	if none < 100 || some < 100 || full < 30 {
		t.Errorf("%d have no word, %d some, %d too many: too few to tell", none, some, full)
	}
}

// What is listed is had, and of other texts that are as long none; blocks are as many as may be.
func TestGreatestBlocks(t *testing.T) {
	seed := uint32(8)
	next := func(below int) int {
		seed = seed*1664525 + 1013904223
		return int(seed>>8) % below
	}
	some := 0
	for range 200 {
		b := grown(40, 2, next)
		words, err := Words(b, 7)
		if err == api.ErrFull {
			t.Fatalf("%v: two letters have 255 words alone", b)
		}
		some += min(len(words), 1)
		allTexts(7, 2, func(w []int) {
			if slices.Contains(w, 0) {
				return
			}
			listed := slices.ContainsFunc(words, func(x []int) bool { return slices.Equal(x, w) })
			if Has(b, w) != listed {
				t.Fatalf("%v has %v: %v, but listed: %v", b, w, !listed, listed)
			}
		})
	}
	if some < 30 {
		t.Errorf("%d have words: too few to tell", some)
	}
}

// nil and empty lists are the same.
func TestNothing(t *testing.T) {
	empty := []api.Block{}
	for _, c := range []struct {
		b    api.Block
		want api.Errno
	}{
		{kind(api.Silent, empty...), api.OK},
		{api.Block{Kind: api.Silent, Kids: empty}, api.OK},
		{api.Block{Kind: api.Step, Label: 1, Kids: empty}, api.OK},
		{api.Block{Kind: api.Seq, Kids: empty}, api.ErrForm},
		{api.Block{Kind: api.Choice, Kids: empty}, api.ErrForm},
		{api.Block{Kind: api.Both, Kids: empty}, api.ErrForm},
		{api.Block{Kind: api.Loop, Kids: empty}, api.ErrForm},
	} {
		if got := Wrong(c.b); got != c.want {
			t.Errorf("%v: %v", c.b, got)
		}
	}
	if !Has(silent(), nil) || !Has(silent(), []int{}) || Has(step(1), nil) || Has(step(1), []int{}) {
		t.Error("nil and empty words are not the same")
	}
}

// Behind the end of a list there may be spare room: it is neither looked at nor changed.
func TestSpareRoom(t *testing.T) {
	made := func() ([]api.Block, []api.Block, []int) {
		inner := []api.Block{step(1), step(2), kind(99)}
		return []api.Block{both(inner[:2]...), silent(), step(3), kind(99)}, inner, []int{2, 1, 3, 77}
	}
	outer, inner, w := made()
	b := api.Block{Kind: api.Seq, Kids: outer[:3]}
	if Wrong(b) != api.OK || !Has(b, w[:3]) || Has(b, w) {
		t.Error("spare room was looked at")
	}
	got, err := Words(b, 8)
	if err != api.OK || !reflect.DeepEqual(got, [][]int{{1, 2, 3}, {2, 1, 3}}) {
		t.Errorf("%v, %v", got, err)
	}
	outerWas, innerWas, wWas := made()
	if !reflect.DeepEqual(outer, outerWas) || !reflect.DeepEqual(inner, innerWas) || !slices.Equal(w, wWas) {
		t.Errorf("what was handed in was changed: %v, %v, %v", outer, inner, w)
	}
}

// What is answered shares nothing with what was handed in, nor with another answer; nothing is kept.
func TestAnswersAreNew(t *testing.T) {
	b := seq(step(1), choice(step(2), step(3)))
	want := [][]int{{1, 2}, {1, 3}}
	first, _ := Words(b, 8)
	first[0][0], first[1] = 55, nil
	again, err := Words(b, 8)
	if err != api.OK || !reflect.DeepEqual(again, want) {
		t.Errorf("an answer was changed, and then comes %v, %v", again, err)
	}
	b.Kids[0].Label, b.Kids[1] = 9, step(9)
	if !reflect.DeepEqual(again, want) {
		t.Errorf("the block was changed, and its words became %v", again)
	}
	if !Has(b, []int{9, 9}) || Has(b, []int{1, 2}) {
		t.Error("the block was changed, but not its words")
	}
}

// Whoever changes one word of an answer, or goes on behind its end, changes no other one.
func TestListsOfOneAnswer(t *testing.T) {
	b := loop(silent(), choice(step(1), step(2)))
	same, _ := Words(b, 5)
	for at := range same {
		want, _ := Words(b, 5)
		got, _ := Words(b, 5)
		longer := got[at]
		for range 8 {
			longer = append(longer, 88)
		}
		for i := range got[at] {
			got[at][i], want[at][i] = 99, 99
		}
		if !slices.EqualFunc(got, want, slices.Equal) {
			t.Errorf("word %d: %v, not %v", at, got, want)
		}
	}
}

func ExampleWrong() {
	a := api.Block{Kind: api.Step, Label: 1}
	fmt.Println(Wrong(a) == api.OK, Wrong(api.Block{Kind: api.Loop, Kids: []api.Block{a}}) == api.ErrForm)
	// Output: true true
}

func ExampleHas() {
	a, b := api.Block{Kind: api.Step, Label: 1}, api.Block{Kind: api.Step, Label: 2}
	again := api.Block{Kind: api.Loop, Kids: []api.Block{a, b}}
	fmt.Println(Has(again, []int{1, 2, 1}), Has(again, []int{1, 2}))
	// Output: true false
}

func ExampleWords() {
	a, b, c := api.Block{Kind: api.Step, Label: 1}, api.Block{Kind: api.Step, Label: 2}, api.Block{Kind: api.Step, Label: 3}
	row := api.Block{Kind: api.Seq, Kids: []api.Block{b, c}}
	words, err := Words(api.Block{Kind: api.Both, Kids: []api.Block{a, row}}, 8)
	fmt.Println(words, err == api.OK)
	// Output: [[1 2 3] [2 1 3] [2 3 1]] true
}
