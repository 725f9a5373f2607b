package grow

import (
	"cmp"
	"fmt"
	"math"
	"reflect"
	"slices"
	"testing"

	"tokenhall/api"
	"tokenhall/blocks"
	"tokenhall/net"
	"tokenhall/shape"
	"tokenhall/sound"
)

func step(label int) api.Block             { return api.Block{Kind: api.Step, Label: label} }
func silent() api.Block                    { return api.Block{Kind: api.Silent} }
func seq(kids ...api.Block) api.Block      { return api.Block{Kind: api.Seq, Kids: kids} }
func choice(kids ...api.Block) api.Block   { return api.Block{Kind: api.Choice, Kids: kids} }
func both(kids ...api.Block) api.Block     { return api.Block{Kind: api.Both, Kids: kids} }
func loop(kids ...api.Block) api.Block     { return api.Block{Kind: api.Loop, Kids: kids} }
func kind(k int, l ...api.Block) api.Block { return api.Block{Kind: k, Kids: l} }

// steps are steps with the labels from 1 on.
func steps(many int) []api.Block {
	var l []api.Block
	for label := range many {
		l = append(l, step(label%api.MaxLabel+1))
	}
	return l
}

// deep is a step within as many blocks of that kind as it takes to be many blocks.
func deep(k, many int) api.Block {
	b := step(1)
	for range many - 1 {
		b = kind(k, b)
	}
	return b
}

// line is a transition by its label and places.
type line struct {
	label    int
	from, to []int
}

// at are places.
func at(places ...int) []int { return places }

// made is the net of these lines.
func made(places int, lines ...line) api.Net {
	n := api.Net{Places: places}
	for _, l := range lines {
		tran := api.Tran{Label: l.label, Pre: make([]int, places), Post: make([]int, places)}
		for _, p := range l.from {
			tran.Pre[p]++
		}
		for _, p := range l.to {
			tran.Post[p]++
		}
		n.Trans = append(n.Trans, tran)
	}
	return n
}

// empty tells whether n is zero; nil and no transitions are the same.
func empty(n api.Net) bool {
	return n.Places == 0 && len(n.Trans) == 0
}

func TestGrow(t *testing.T) {
	one := func(label int) line { return line{label, at(0), at(1)} }
	for _, c := range []struct {
		b    api.Block
		want api.Net
		what string
	}{
		{silent(), made(2, one(0)), "Silent"},
		{api.Block{Kind: api.Silent, Label: 7}, made(2, one(0)), "Silent has no label, whatever stands there"},
		{step(1), made(2, one(1)), "the least label"},
		{step(26), made(2, one(26)), "the greatest label"},
		{seq(step(5), step(6)), made(3, line{5, at(0), at(2)}, line{6, at(2), at(1)}), "the document's eleventh example: three places, two transitions"},
		{seq(step(5)), made(2, one(5)), "a Seq of one"},
		{seq(step(3), silent(), step(2), step(3)), made(5, line{3, at(0), at(2)}, line{0, at(2), at(3)}, line{2, at(3), at(4)}, line{3, at(4), at(1)}), "a Seq of four"},
		{seq(seq(step(1), step(2)), step(3)), made(4, line{1, at(0), at(3)}, line{2, at(3), at(2)}, line{3, at(2), at(1)}), "the place behind a part comes ahead of those within it"},
		{seq(step(1), seq(step(2), step(3))), made(4, line{1, at(0), at(2)}, line{2, at(2), at(3)}, line{3, at(3), at(1)}), "the last part ends where all ends"},
		{choice(step(4)), made(2, one(4)), "a Choice of one"},
		{choice(step(4), silent(), step(2), step(4)), made(2, one(4), one(0), one(2), one(4)), "each part in turn, also twice the same"},
		{choice(seq(step(1), step(2)), seq(step(3), step(4))), made(4, line{1, at(0), at(2)}, line{2, at(2), at(1)}, line{3, at(0), at(3)}, line{4, at(3), at(1)}), "two rows to choose from"},
		{both(step(9)), made(4, line{0, at(0), at(2)}, line{9, at(2), at(3)}, line{0, at(3), at(1)}), "a Both of one"},
		{both(step(2), step(1)), made(6, line{0, at(0), at(2, 4)}, line{2, at(2), at(3)}, line{1, at(4), at(5)}, line{0, at(3, 5), at(1)}), "side by side: in, out, in, out"},
		{both(seq(step(1), step(2)), step(3)), made(7, line{0, at(0), at(2, 4)}, line{1, at(2), at(6)}, line{2, at(6), at(3)}, line{3, at(4), at(5)}, line{0, at(3, 5), at(1)}), "ins and outs come ahead of places within"},
		{both(both(step(1), step(2)), step(3)), made(10, line{0, at(0), at(2, 4)}, line{0, at(2), at(6, 8)}, line{1, at(6), at(7)}, line{2, at(8), at(9)}, line{0, at(7, 9), at(3)}, line{3, at(4), at(5)}, line{0, at(3, 5), at(1)}), "side by side within side by side"},
		{loop(step(1), step(2)), made(4, line{0, at(0), at(2)}, line{1, at(2), at(3)}, line{2, at(3), at(2)}, line{0, at(3), at(1)}), "a Loop"},
		{loop(step(1), seq(step(2), step(3))), made(5, line{0, at(0), at(2)}, line{1, at(2), at(3)}, line{2, at(3), at(4)}, line{3, at(4), at(2)}, line{0, at(3), at(1)}), "back by a row"},
		{loop(loop(step(1), step(2)), silent()), made(6, line{0, at(0), at(2)}, line{0, at(2), at(4)}, line{1, at(4), at(5)}, line{2, at(5), at(4)}, line{0, at(5), at(3)}, line{0, at(3), at(2)}, line{0, at(3), at(1)}), "a Loop within a Loop"},
		{loop(silent(), loop(step(1), step(2))), made(6, line{0, at(0), at(2)}, line{0, at(2), at(3)}, line{0, at(3), at(4)}, line{1, at(4), at(5)}, line{2, at(5), at(4)}, line{0, at(5), at(2)}, line{0, at(3), at(1)}), "back by a Loop"},
		{seq(loop(step(1), silent()), step(2)), made(5, line{0, at(0), at(3)}, line{1, at(3), at(4)}, line{0, at(4), at(3)}, line{0, at(4), at(2)}, line{2, at(2), at(1)}), "a row that begins with a Loop"},
		{deep(api.Seq, 40), made(2, one(1)), "as many blocks as may be"},
		{deep(api.Choice, 40), made(2, one(1)), "as many blocks as may be, to choose from"},
	} {
		got, err := Grow(c.b)
		if err != api.OK || !reflect.DeepEqual(got, c.want) {
			t.Errorf("%s: %v, %v, not %v", c.what, got, err, c.want)
		}
	}
}

// Labels of blocks that have none mean nothing.
func TestLabelsOfOthers(t *testing.T) {
	kids := []api.Block{step(1), {Kind: api.Silent, Label: 3}}
	for _, k := range []int{api.Seq, api.Choice, api.Both, api.Loop} {
		want, _ := Grow(kind(k, step(1), silent()))
		for _, label := range []int{math.MinInt, -1, 1, 27, math.MaxInt} {
			got, err := Grow(api.Block{Kind: k, Label: label, Kids: kids})
			if err != api.OK || !reflect.DeepEqual(got, want) {
				t.Errorf("kind %d, label %d: %v, %v", k, label, got, err)
			}
		}
	}
}

// What is wrong with blocks is told, and beside it the net is zero.
func TestWrongBlocks(t *testing.T) {
	for _, c := range []struct {
		b    api.Block
		want api.Errno
		what string
	}{
		{api.Block{}, api.ErrKind, "nothing at all"},
		{kind(-1), api.ErrKind, "a kind below all"},
		{kind(7, steps(2)...), api.ErrKind, "a kind above all"},
		{kind(math.MaxInt), api.ErrKind, "a kind far above all"},
		{step(0), api.ErrRange, "a label below all"},
		{step(27), api.ErrRange, "a label above all"},
		{step(math.MinInt), api.ErrRange, "a label far below all"},
		{kind(api.Silent, silent()), api.ErrForm, "Silent with something within"},
		{api.Block{Kind: api.Step, Label: 1, Kids: steps(1)}, api.ErrForm, "a step with something within"},
		{seq(), api.ErrForm, "an empty Seq"},
		{choice(), api.ErrForm, "an empty Choice"},
		{both(), api.ErrForm, "an empty Both"},
		{loop(), api.ErrForm, "an empty Loop"},
		{loop(step(1)), api.ErrForm, "a Loop of one"},
		{loop(steps(3)...), api.ErrForm, "a Loop of three"},
		{seq(step(1), both(step(2), step(0)), seq()), api.ErrRange, "the first one of two"},
		{deep(api.Seq, 41), api.ErrFull, "too many blocks, of one transition"},
		{deep(api.Seq, 1<<16), api.ErrFull, "far too many blocks"},
		{seq(steps(40)...), api.ErrFull, "too many blocks in a row"},
		{choice(append(steps(38), step(27))...), api.ErrRange, "a label, ahead of too many transitions"},
		{seq(append(steps(38), kind(0))...), api.ErrKind, "a kind, ahead of too many places"},
		{both(append(steps(8), seq())...), api.ErrForm, "a form, ahead of too many places"},
		{loop(choice(steps(30)...), loop(step(1))), api.ErrForm, "a form within, ahead of too many transitions"},
	} {
		if got := blocks.Wrong(c.b); got != c.want {
			t.Fatalf("%s: it is wrong by %v", c.what, got)
		}
		if got, err := Grow(c.b); err != c.want || !empty(got) {
			t.Errorf("%s: %v, %v, not %v", c.what, got, err, c.want)
		}
	}
}

// Blocks that are within themselves have no end, but the answer comes.
func TestWithinItself(t *testing.T) {
	for _, k := range []int{api.Seq, api.Choice, api.Both, api.Loop} {
		kids := []api.Block{step(1), step(2)}
		kids[1] = api.Block{Kind: k, Kids: kids}
		if got, err := Grow(kids[1]); err != api.ErrFull || !empty(got) {
			t.Errorf("kind %d: %v, %v", k, got, err)
		}
	}
}

// As many places and transitions as may be, and one more, wherever that one comes.
func TestFull(t *testing.T) {
	for _, c := range []struct {
		b             api.Block
		places, trans int
		what          string
	}{
		{seq(steps(15)...), 16, 15, "a row"},
		{seq(steps(16)...), 17, 16, "a longer row"},
		{seq(steps(39)...), 40, 39, "the longest row"},
		{both(steps(7)...), 16, 9, "side by side"},
		{both(steps(8)...), 18, 10, "more side by side"},
		{both(seq(steps(2)...), seq(steps(2)...), seq(steps(2)...), seq(steps(2)...), step(1)), 16, 11, "rows side by side"},
		{both(seq(steps(2)...), seq(steps(2)...), seq(steps(2)...), seq(steps(2)...), seq(steps(2)...)), 17, 12, "one row more"},
		{deep(api.Both, 8), 16, 15, "one within the other"},
		{deep(api.Both, 9), 18, 17, "more, one within the other"},
		{deep(api.Both, 40), 80, 79, "as many as may be, one within the other"},
		{both(append(steps(5), seq(steps(2)...))...), 15, 9, "room for one place"},
		{both(append(steps(5), seq(steps(3)...))...), 16, 10, "no room for one place"},
		{both(append(steps(5), seq(steps(4)...))...), 17, 11, "one place more, at the last part"},
		{seq(both(steps(6)...), step(1)), 15, 9, "a row of what is side by side"},
		{seq(both(steps(6)...), step(1), step(2)), 16, 10, "a longer row of what is side by side"},
		{seq(both(steps(6)...), step(1), step(2), step(3)), 17, 11, "too long a row of what is side by side"},
		{seq(append(steps(13), loop(step(1), step(2)))...), 17, 17, "a row, and of a Loop one place too many"},
		{seq(append(steps(12), loop(step(1), step(2)))...), 16, 16, "a row, and a Loop"},
		{seq(append(steps(14), loop(step(1), step(2)))...), 18, 18, "a row, and of a Loop both places too many"},
		{choice(steps(24)...), 2, 24, "to choose from"},
		{choice(steps(25)...), 2, 25, "more to choose from"},
		{choice(steps(39)...), 2, 39, "most to choose from"},
		{choice(append(steps(24), silent())...), 2, 25, "one more, that nobody sees"},
		{choice(append(steps(23), silent())...), 2, 24, "the last one nobody sees"},
		{choice(append(steps(20), loop(step(1), step(2)))...), 4, 24, "a Loop at the end"},
		{choice(append(steps(21), loop(step(1), step(2)))...), 4, 25, "a Loop whose last transition is too many"},
		{choice(append(steps(24), loop(step(1), step(2)))...), 4, 28, "a Loop whose first transition is too many"},
		{choice(append(steps(20), both(step(1), step(2)))...), 6, 24, "side by side at the end"},
		{choice(append(steps(21), both(step(1), step(2)))...), 6, 25, "side by side, and the last transition is too many"},
		{choice(append(steps(24), both(step(1), step(2)))...), 6, 28, "side by side, and the first transition is too many"},
		{loop(choice(steps(21)...), step(1)), 4, 24, "to choose from, again and again"},
		{loop(choice(steps(22)...), step(1)), 4, 25, "more to choose from, again and again"},
		{seq(append(steps(14), choice(steps(10)...))...), 16, 24, "as many of both as may be"},
		{seq(append(steps(14), choice(steps(11)...))...), 16, 25, "as many places as may be, and one transition more"},
		{seq(append(steps(15), choice(steps(9)...))...), 17, 24, "as many transitions as may be, and one place more"},
		{seq(append(steps(15), choice(steps(10)...))...), 17, 25, "one more of both"},
	} {
		if blocks.Wrong(c.b) != api.OK {
			t.Fatalf("%s: it is wrong", c.what)
		}
		if lines, places := told(c.b, 0, 1, 2); places != c.places || len(lines) != c.trans {
			t.Fatalf("%s: it would have %d places, %d transitions", c.what, places, len(lines))
		}
		want := api.OK
		if c.places > api.MaxPlaces || c.trans > api.MaxTrans {
			want = api.ErrFull
		}
		got, err := Grow(c.b)
		if err != want {
			t.Errorf("%s: %v, not %v", c.what, err, want)
		}
		if want == api.OK && (got.Places != c.places || len(got.Trans) != c.trans) {
			t.Errorf("%s: %d places, %d transitions", c.what, got.Places, len(got.Trans))
		}
		if want != api.OK && !empty(got) {
			t.Errorf("%s: beside an error there is %v", c.what, got)
		}
	}
}

// told is the promise's words: how b becomes lines between p and q, if free is the next place; and which place is next then.
func told(b api.Block, p, q, free int) ([]line, int) {
	lines := []line{{b.Label, at(p), at(q)}}
	part := func(k, from, to int) {
		more, next := told(b.Kids[k], from, to, free)
		lines, free = append(lines, more...), next
	}
	switch last := len(b.Kids) - 1; b.Kind {
	case api.Silent:
		lines[0].label = 0
	case api.Choice:
		lines = nil
		for k := range b.Kids {
			part(k, p, q)
		}
	case api.Seq:
		lines = nil
		for k := range last {
			here := free
			free++
			part(k, p, here)
			p = here
		}
		part(last, p, q)
	case api.Both:
		first := free
		lines[0] = line{0, at(p), nil}
		end := line{0, nil, at(q)}
		for k := range b.Kids {
			lines[0].to, end.from = append(lines[0].to, first+2*k), append(end.from, first+2*k+1)
		}
		free += 2 * len(b.Kids)
		for k := range b.Kids {
			part(k, first+2*k, first+2*k+1)
		}
		lines = append(lines, end)
	case api.Loop:
		x, y := free, free+1
		free += 2
		lines[0] = line{0, at(p), at(x)}
		part(0, x, y)
		part(1, y, x)
		lines = append(lines, line{0, at(y), at(q)})
	}
	return lines, free
}

// closed adds all marks that silent transitions come to, each once, in order.
func closed(n api.Net, marks [][]int) [][]int {
	for i := 0; i < len(marks); i++ {
		for k, tran := range n.Trans {
			if m, err := net.Fire(n, marks[i], k); tran.Label == 0 && err == api.OK && !holds(marks, m) {
				marks = append(marks, m)
			}
		}
	}
	return marks
}

func holds(marks [][]int, m []int) bool {
	return slices.ContainsFunc(marks, func(x []int) bool { return slices.Equal(x, m) })
}

// said answers all words of n from place 0 to place 1 of up to most letters, in the order of blocks.Words.
func said(n api.Net, most int) [][]int {
	var words [][]int
	var longer func(word []int, marks [][]int)
	longer = func(word []int, marks [][]int) {
		if holds(marks, shape.Start(n, 1)) {
			words = append(words, word)
		}
		if len(word) == most {
			return
		}
		for letter := 1; letter <= api.MaxLabel; letter++ {
			var next [][]int
			for _, from := range marks {
				for k, tran := range n.Trans {
					if m, err := net.Fire(n, from, k); tran.Label == letter && err == api.OK && !holds(next, m) {
						next = append(next, m)
					}
				}
			}
			if len(next) > 0 {
				longer(append(slices.Clone(word), letter), closed(n, next))
			}
		}
	}
	longer(nil, closed(n, [][]int{shape.Start(n, 0)}))
	slices.SortFunc(words, func(a, b []int) int {
		return cmp.Or(cmp.Compare(len(a), len(b)), slices.Compare(a, b))
	})
	return words
}

// agrees holds one block, which is not wrong, against the promise's words, and tells whether there is room for its net. What is built of blocks is sound, and says what its blocks say.
func agrees(t *testing.T, b api.Block, most int) bool {
	t.Helper()
	lines, places := told(b, 0, 1, 2)
	n, err := Grow(b)
	if places > api.MaxPlaces || len(lines) > api.MaxTrans {
		if err != api.ErrFull || !empty(n) {
			t.Fatalf("%v: %v, %v, but it has %d places and %d transitions", b, n, err, places, len(lines))
		}
		return false
	}
	if want := made(places, lines...); err != api.OK || !reflect.DeepEqual(n, want) {
		t.Fatalf("%v: %v, %v, not %v", b, n, err, want)
	}
	if v, err := sound.Judge(n, 0, 1, api.MaxStates); err != api.OK || v.Kind != api.Sound {
		t.Fatalf("%v is judged %v, %v", b, v, err)
	}
	if want, err := blocks.Words(b, most); err == api.OK {
		if got := said(n, most); !slices.EqualFunc(got, want, slices.Equal) {
			t.Fatalf("%v says %v, not %v", b, got, want)
		}
	}
	return true
}

// blocksOf answers all right blocks that are that many, of Silent and the labels 1 and 2, with Kids of up to three.
func blocksOf(many int) []api.Block {
	if many == 1 {
		return []api.Block{silent(), step(1), step(2)}
	}
	var all []api.Block
	for _, kids := range rows(many-1, 3) {
		all = append(all, seq(kids...), choice(kids...), both(kids...))
		if len(kids) == 2 {
			all = append(all, loop(kids...))
		}
	}
	return all
}

// rows answers all rows of up to most blocks, that are that many with all within.
func rows(many, most int) [][]api.Block {
	if many == 0 {
		return [][]api.Block{nil}
	}
	if most == 0 {
		return nil
	}
	var all [][]api.Block
	for first := 1; first <= many; first++ {
		for _, b := range blocksOf(first) {
			for _, others := range rows(many-first, most-1) {
				all = append(all, append([]api.Block{b}, others...))
			}
		}
	}
	return all
}

func TestAllSmallBlocks(t *testing.T) {
	for many := 1; many <= 5; many++ {
		all := blocksOf(many)
		for _, b := range all {
			if !agrees(t, b, 3) {
				t.Fatalf("%v: there is no room", b)
			}
		}
		if len(all) == 0 {
			t.Errorf("there is none of %d blocks", many)
		}
	}
}

// grown answers a block that is that many, with all within.
func grown(many, labels int, next func(below int) int) api.Block {
	if many == 1 {
		if next(5) == 0 {
			return api.Block{Kind: api.Silent, Label: next(99)}
		}
		return step(1 + next(labels))
	}
	k := api.Seq + next(4)
	if k == api.Loop && many < 3 {
		k = api.Both
	}
	parts := []int{1, 1}
	if k != api.Loop {
		parts = slices.Repeat([]int{1}, 1+next(min(many-1, 4)))
	}
	for range many - 1 - len(parts) {
		parts[next(len(parts))]++
	}
	b := api.Block{Kind: k, Label: next(99)}
	for _, part := range parts {
		b.Kids = append(b.Kids, grown(part, labels, next))
	}
	return b
}

func TestGreaterBlocks(t *testing.T) {
	seed := uint32(5)
	next := func(below int) int {
		seed = seed*1664525 + 1013904223
		return int(seed>>8) % below
	}
	room, full := 0, 0
	for range 1500 {
		if agrees(t, grown(6+next(16), 1+next(api.MaxLabel), next), 3) {
			room++
		} else {
			full++
		}
	}
	if room < 500 || full < 200 {
		t.Errorf("for %d there is room, for %d not: too few to tell", room, full)
	}
}

// nil and empty lists are the same.
func TestNothing(t *testing.T) {
	none := []api.Block{}
	for _, k := range []int{api.Silent, api.Step, api.Seq, api.Choice, api.Both, api.Loop} {
		want, wantErr := Grow(api.Block{Kind: k, Label: 1})
		got, err := Grow(api.Block{Kind: k, Label: 1, Kids: none})
		if err != wantErr || !reflect.DeepEqual(got, want) {
			t.Errorf("kind %d: %v, %v, not %v, %v", k, got, err, want, wantErr)
		}
	}
}

// Behind the end of a list there may be spare room: it is neither looked at nor changed.
func TestSpareRoom(t *testing.T) {
	made := func() ([]api.Block, []api.Block) {
		inner := []api.Block{step(1), step(2), kind(99)}
		return []api.Block{both(inner[:2]...), silent(), loop(inner[:2]...), kind(99)}, inner
	}
	outer, inner := made()
	want, _ := Grow(seq(both(step(1), step(2)), silent(), loop(step(1), step(2))))
	got, err := Grow(api.Block{Kind: api.Seq, Kids: outer[:3]})
	if err != api.OK || !reflect.DeepEqual(got, want) {
		t.Errorf("%v, %v, not %v", got, err, want)
	}
	outerWas, innerWas := made()
	if !reflect.DeepEqual(outer, outerWas) || !reflect.DeepEqual(inner, innerWas) {
		t.Errorf("what was handed in was changed: %v, %v", outer, inner)
	}
}

// What is answered is new, and nothing is kept: neither of what was handed in, nor of a net for which there was no room.
func TestAnswersAreNew(t *testing.T) {
	b := seq(step(1), both(step(2), step(3)))
	want, _ := Grow(b)
	first, _ := Grow(b)
	first.Trans[0].Label, first.Trans[0].Pre[0], first.Trans[1] = 9, 9, api.Tran{}
	if _, err := Grow(both(steps(8)...)); err != api.ErrFull {
		t.Errorf("there is room: %v", err)
	}
	again, err := Grow(b)
	if err != api.OK || !reflect.DeepEqual(again, want) {
		t.Errorf("an answer was changed, and then comes %v, %v", again, err)
	}
	b.Kids[0].Label, b.Kids[1] = 9, step(9)
	if !reflect.DeepEqual(again, want) {
		t.Errorf("the block was changed, and its net became %v", again)
	}
}

// Whoever changes one list of an answer, or goes on behind its end, changes no other one.
func TestListsOfOneAnswer(t *testing.T) {
	b := seq(both(step(1), step(2)), loop(step(3), silent()))
	lists := func() [][]int {
		n, _ := Grow(b)
		var l [][]int
		for _, tran := range n.Trans {
			l = append(l, tran.Pre, tran.Post)
		}
		return l
	}
	for k := range lists() {
		want, got := lists(), lists()
		longer := got[k]
		for range 20 {
			longer = append(longer, 88)
		}
		for p := range got[k] {
			got[k][p], want[k][p] = 99, 99
		}
		if !reflect.DeepEqual(got, want) {
			t.Errorf("list %d: %v, not %v", k, got, want)
		}
	}
}

func ExampleGrow() {
	a, b := api.Block{Kind: api.Step, Label: 1}, api.Block{Kind: api.Step, Label: 2}
	n, err := Grow(api.Block{Kind: api.Seq, Kids: []api.Block{a, b}})
	fmt.Println(n, err == api.OK)
	// Output: {3 [{1 [1 0 0] [0 0 1]} {2 [0 0 1] [0 1 0]}]} true
}
