package live

import (
	"fmt"
	"math"
	"reflect"
	"slices"
	"testing"

	"tokenhall/api"
	"tokenhall/reach"
)

// answers is what all six calls answer of one space.
type answers struct {
	right                   bool
	dead, live, stuck, home []int
	bound                   int
}

func ask(s api.Space, trans int) answers {
	return answers{Right(s), Dead(s, trans), Live(s, trans), Stuck(s), Home(s), Bound(s)}
}

// same holds nil and empty lists to be the same.
func (a answers) same(b answers) bool {
	return a.right == b.right && slices.Equal(a.dead, b.dead) && slices.Equal(a.live, b.live) &&
		slices.Equal(a.stuck, b.stuck) && slices.Equal(a.home, b.home) && a.bound == b.bound
}

// space has as many marks as is said, each one of one place without tokens.
func space(marks int, arcs ...api.Arc) api.Space {
	s := api.Space{Arcs: arcs}
	for range marks {
		s.Marks = append(s.Marks, []int{0})
	}
	return s
}

// ring goes on from mark to mark by transition 0, and from the last one back by transition 1.
func ring(marks int) api.Space {
	s := space(marks)
	for m := range marks - 1 {
		s.Arcs = append(s.Arcs, api.Arc{From: m, To: m + 1})
	}
	s.Arcs = append(s.Arcs, api.Arc{From: marks - 1, Tran: 1})
	return s
}

func upTo(end int) []int {
	var l []int
	for i := range end {
		l = append(l, i)
	}
	return l
}

func TestAnswers(t *testing.T) {
	for _, c := range []struct {
		s     api.Space
		trans int
		want  answers
		what  string
	}{
		{api.Space{}, 0, answers{right: true}, "nothing"},
		{api.Space{Marks: [][]int{}, Arcs: []api.Arc{}}, 0, answers{right: true}, "nothing, empty"},
		{api.Space{}, 2, answers{true, []int{0, 1}, []int{0, 1}, nil, nil, 0}, "no mark: from each one all can be done"},
		{space(1), 0, answers{true, nil, nil, []int{0}, []int{0}, 0}, "one mark: one comes to it by no arc"},
		{space(1), 2, answers{true, []int{0, 1}, nil, []int{0}, []int{0}, 0}, "the document's seventh example: without arcs nothing is live"},
		{space(2), 1, answers{true, []int{0}, nil, []int{0, 1}, nil, 0}, "two marks apart"},
		{space(1, api.Arc{}), 2, answers{true, []int{1}, []int{0}, nil, []int{0}, 0}, "a mark that is left for itself"},
		{space(2, api.Arc{To: 1}), 1, answers{true, nil, nil, []int{1}, []int{1}, 0}, "one way"},
		{space(2, api.Arc{From: 1}), 1, answers{true, nil, nil, []int{0}, []int{0}, 0}, "the other way"},
		{space(2, api.Arc{To: 1}, api.Arc{From: 1, Tran: 1}), 2, answers{true, nil, []int{0, 1}, nil, []int{0, 1}, 0}, "there and back"},
		{space(2, api.Arc{To: 1}, api.Arc{To: 1}, api.Arc{Tran: 2, To: 1}), 3, answers{true, []int{1}, nil, []int{1}, []int{1}, 0}, "several arcs one beside the other"},
		{space(2, api.Arc{To: 1}, api.Arc{From: 1, To: 1, Tran: 1}), 2, answers{true, nil, []int{1}, nil, []int{1}, 0}, "what is left for ever is not live, what comes behind it is"},
		{space(3, api.Arc{To: 1}, api.Arc{To: 2, Tran: 1}), 2, answers{true, nil, nil, []int{1, 2}, nil, 0}, "two ends: neither is a home"},
		{space(3, api.Arc{From: 1}, api.Arc{From: 2}), 1, answers{true, nil, nil, []int{0}, []int{0}, 0}, "two beginnings, one home"},
		{space(3, api.Arc{To: 1}, api.Arc{To: 2}, api.Arc{From: 1, To: 1, Tran: 1}, api.Arc{From: 2, To: 2, Tran: 1}), 2, answers{true, nil, []int{1}, nil, nil, 0}, "live in each of two ends, without a home"},
		{space(3, api.Arc{To: 1}, api.Arc{To: 2}, api.Arc{From: 1, To: 1, Tran: 1}, api.Arc{From: 2, To: 2, Tran: 2}), 3, answers{true, nil, nil, nil, nil, 0}, "live in one of two ends alone"},
		{space(3, api.Arc{From: 2, To: 1}, api.Arc{From: 1, To: 2, Tran: 1}, api.Arc{To: 2, Tran: 2}), 3, answers{true, nil, []int{0, 1}, nil, []int{1, 2}, 0}, "several homes"},
		{space(3, api.Arc{From: 0, To: 1}, api.Arc{From: 1, To: 0, Tran: 1}, api.Arc{From: 1, To: 2, Tran: 2}), 3, answers{true, nil, nil, []int{2}, []int{2}, 0}, "one can go round, but need not"},
		{ring(300), 3, answers{true, []int{2}, []int{0, 1}, nil, upTo(300), 0}, "all of a ring"},
		{space(2, api.Arc{To: 1, Tran: -1}, api.Arc{From: 1, Tran: 24}), 24, answers{true, upTo(24), nil, nil, []int{0, 1}, 0}, "arcs of no transition are arcs"},
		{space(1, api.Arc{Tran: math.MinInt}, api.Arc{Tran: math.MaxInt}), 1, answers{true, []int{0}, nil, nil, []int{0}, 0}, "arcs of no transition at all"},
	} {
		if got := ask(c.s, c.trans); !got.same(c.want) {
			t.Errorf("%s: %v, not %v", c.what, got, c.want)
		}
	}
}

// The number of transitions says which ones are asked for; more than there may be are as many as there may be.
func TestTransitions(t *testing.T) {
	s := space(1)
	for tran := range api.MaxTrans + 2 {
		if tran%3 != 1 {
			s.Arcs = append(s.Arcs, api.Arc{Tran: tran})
		}
	}
	dead, live := []int{1, 4, 7, 10, 13, 16, 19, 22}, []int{0, 2, 3, 5, 6, 8, 9, 11, 12, 14, 15, 17, 18, 20, 21, 23}
	for _, trans := range []int{math.MinInt, -25, -1, 0, 1, 2, 3, 22, 23, 24, 25, 26, 30, math.MaxInt} {
		below := func(l []int) []int {
			return slices.DeleteFunc(slices.Clone(l), func(i int) bool { return i >= trans })
		}
		if got := Dead(s, trans); !slices.Equal(got, below(dead)) {
			t.Errorf("Dead of %d: %v", trans, got)
		}
		if got := Live(s, trans); !slices.Equal(got, below(live)) {
			t.Errorf("Live of %d: %v", trans, got)
		}
	}
}

// A space that is not right is asked for what arcs and marks say alone; nothing of it is live, and it has no home.
func TestNotRight(t *testing.T) {
	for _, c := range []struct {
		s    api.Space
		want answers
	}{
		{space(0, api.Arc{}), answers{dead: []int{1}}},
		{space(1, api.Arc{To: 1}), answers{dead: []int{1}}},
		{space(1, api.Arc{From: 1}), answers{dead: []int{1}, stuck: []int{0}}},
		{space(1, api.Arc{From: -1}), answers{dead: []int{1}, stuck: []int{0}}},
		{space(1, api.Arc{To: -1, Tran: 1}), answers{dead: []int{0}}},
		{space(2, api.Arc{To: 1}, api.Arc{From: 1}, api.Arc{From: 1, To: 2, Tran: 5}), answers{dead: []int{1}}},
		{space(2, api.Arc{From: 2}, api.Arc{To: 1}, api.Arc{From: 1}), answers{dead: []int{1}}},
		{space(2, api.Arc{From: math.MaxInt, To: 1, Tran: 1}), answers{dead: []int{0}, stuck: []int{0, 1}}},
		{space(2, api.Arc{From: 1, To: math.MinInt, Tran: -1}), answers{dead: []int{0, 1}, stuck: []int{0}}},
		{api.Space{Marks: [][]int{{3}, {7}}, Arcs: []api.Arc{{To: 2}}}, answers{dead: []int{1}, stuck: []int{1}, bound: 7}},
	} {
		if got := ask(c.s, 2); !got.same(c.want) {
			t.Errorf("%v: %v, not %v", c.s, got, c.want)
		}
	}
}

func TestBound(t *testing.T) {
	const most = api.MaxTokens
	for _, c := range []struct {
		marks [][]int
		want  int
	}{
		{nil, 0},
		{[][]int{}, 0},
		{[][]int{nil}, 0},
		{[][]int{{}, nil, {}}, 0},
		{[][]int{{0, 0}}, 0},
		{[][]int{{5}}, 5},
		{[][]int{{1, 3, 2}}, 3},
		{[][]int{{4, 1}, {1, 3}, nil}, 4},
		{[][]int{{1}, {1, 2}, {1, 2, 6}}, 6},
		{[][]int{{most}, {2}}, most},
		{[][]int{{most + 1}, {2}}, 2},
		{[][]int{{most + 1, most}, {2}}, 2},
		{[][]int{{9, api.Many}, {2}}, 2},
		{[][]int{{api.Many, 9}}, 0},
		{[][]int{{math.MinInt, 8}, {math.MaxInt}, {7, 0}}, 7},
		{[][]int{make([]int, 99), append(make([]int, 99), 12)}, 12},
	} {
		if got := Bound(api.Space{Marks: c.marks}); got != c.want {
			t.Errorf("%v: %d, not %d", c.marks, got, c.want)
		}
	}
}

// Marks count by their number alone: whether they are right or the same means nothing to arcs.
func TestMarksThatAreNotRight(t *testing.T) {
	s := api.Space{Marks: [][]int{{-1}, nil, {-1}}, Arcs: []api.Arc{{To: 1}, {From: 1, To: 2}, {From: 2, To: 1}}}
	if got := ask(s, 1); !got.same(answers{true, nil, []int{0}, nil, []int{1, 2}, 0}) {
		t.Errorf("%v", got)
	}
}

// told is the promises' words of a space whose arcs are right: ways is who comes to whom, at last.
func told(s api.Space, trans int) answers {
	a := answers{right: true}
	n := len(s.Marks)
	ways := make([][]bool, n)
	for m := range ways {
		ways[m] = make([]bool, n)
		ways[m][m] = true
	}
	for range n {
		for _, arc := range s.Arcs {
			for m := range n {
				ways[m][arc.To] = ways[m][arc.To] || ways[m][arc.From]
			}
		}
	}
	for tran := range trans {
		arcs, always := 0, true
		for m := range n {
			can := false
			for _, arc := range s.Arcs {
				can = can || arc.Tran == tran && ways[m][arc.From]
			}
			always = always && can
		}
		for _, arc := range s.Arcs {
			if arc.Tran == tran {
				arcs++
			}
		}
		if arcs == 0 {
			a.dead = append(a.dead, tran)
		}
		if always {
			a.live = append(a.live, tran)
		}
	}
	for m := range n {
		leaves := slices.ContainsFunc(s.Arcs, func(arc api.Arc) bool { return arc.From == m })
		if !leaves {
			a.stuck = append(a.stuck, m)
		}
		home := true
		for from := range n {
			home = home && ways[from][m]
		}
		if home {
			a.home = append(a.home, m)
		}
	}
	return a
}

// All spaces of four marks with each arc among them there or not, or nearly all, against the promises' words.
func TestManySpaces(t *testing.T) {
	lives, homes, halves := 0, 0, 0
	for bits := range 1 << 16 {
		if bits%3 == 1 {
			continue
		}
		s := space(4)
		for i := range 16 {
			if bits>>i&1 == 1 {
				s.Arcs = append(s.Arcs, api.Arc{From: i / 4, To: i % 4, Tran: (i*5 + bits) % 3})
			}
		}
		want, got := told(s, 3), ask(s, 3)
		if !got.same(want) {
			t.Fatalf("%v: %v, not %v", s, got, want)
		}
		if len(want.live) > 0 {
			lives++
		}
		if len(want.home) > 0 {
			homes++
		}
		if len(want.live) > 0 && len(want.home) < 4 {
			halves++
		}
	}
	if lives < 1000 || homes < 1000 || halves < 1000 {
		t.Errorf("%d with what is live, %d with a home, %d with what is live and not all homes: too few to tell", lives, homes, halves)
	}
}

// Long spaces with few arcs have marks that are far from one another.
func TestSpacesWithFewArcs(t *testing.T) {
	seed := uint32(7)
	next := func(below int) int {
		seed = seed*1664525 + 1013904223
		return int(seed>>8) % below
	}
	homes := 0
	for range 600 {
		s := space(2 + next(9))
		for range len(s.Marks) + next(6) {
			s.Arcs = append(s.Arcs, api.Arc{From: next(len(s.Marks)), To: next(len(s.Marks)), Tran: next(4)})
		}
		want := told(s, 4)
		if got := ask(s, 4); !got.same(want) {
			t.Fatalf("%v: %v, not %v", s, got, want)
		}
		if len(want.home) > 0 {
			homes++
		}
	}
	if homes < 50 {
		t.Errorf("%d with a home: too few to tell", homes)
	}
}

// Any space may come, also one that no net of this size has: a row and a ring that are far longer, and many arcs to one mark.
func TestLargeSpaces(t *testing.T) {
	const marks = 200000
	s := ring(marks)
	if got := ask(s, api.MaxTrans); !slices.Equal(got.live, []int{0, 1}) || len(got.home) != marks || len(got.stuck) > 0 {
		t.Errorf("a ring: live %v, %d homes, %d stuck", got.live, len(got.home), len(got.stuck))
	}
	s.Arcs = s.Arcs[:marks-1]
	if got := ask(s, 1); !got.same(answers{true, nil, nil, []int{marks - 1}, []int{marks - 1}, 0}) {
		t.Errorf("a row: live %v, home %v, stuck %v", got.live, got.home, got.stuck)
	}
	s = space(marks)
	for m := range marks {
		s.Arcs = append(s.Arcs, api.Arc{From: m, To: 7})
	}
	if got := ask(s, 1); !got.same(answers{true, nil, []int{0}, nil, []int{7}, 0}) {
		t.Errorf("all to one: live %v, home %v, stuck %v", got.live, got.home, got.stuck)
	}
}

// What reach tells of nets.
func TestSpacesOfNets(t *testing.T) {
	back := api.Net{Places: 2, Trans: []api.Tran{
		{Pre: []int{1, 0}, Post: []int{0, 1}},
		{Pre: []int{0, 1}, Post: []int{1, 0}},
		{Pre: []int{3, 0}, Post: []int{0, 0}},
	}}
	for tokens, want := range []answers{
		{true, []int{0, 1, 2}, nil, []int{0}, []int{0}, 0},
		{true, []int{2}, []int{0, 1}, nil, []int{0, 1}, 1},
		{true, []int{2}, []int{0, 1}, nil, []int{0, 1, 2}, 2},
		{true, nil, nil, []int{2}, []int{2}, 3},
		{true, nil, []int{0, 1}, nil, []int{2, 4}, 4},
	} {
		s, err := reach.Graph(back, []int{tokens, 0}, api.MaxStates)
		if got := ask(s, 3); err != api.OK || !got.same(want) {
			t.Errorf("%d tokens: %v, not %v", tokens, got, want)
		}
	}
}

// Behind the end of a list there may be spare room: it is neither looked at nor changed.
func TestSpareRoom(t *testing.T) {
	made := func() ([][]int, []api.Arc) {
		return [][]int{append([]int{1, 2}, 99)[:2], {0}, {50}}, []api.Arc{{To: 1}, {From: 1}, {From: 9, To: 9}}
	}
	marks, arcs := made()
	s := api.Space{Marks: marks[:2], Arcs: arcs[:2]}
	if got := ask(s, 1); !got.same(answers{true, nil, []int{0}, nil, []int{0, 1}, 2}) {
		t.Errorf("%v", got)
	}
	wantMarks, wantArcs := made()
	if !reflect.DeepEqual(marks, wantMarks) || marks[0][:3][2] != 99 || !slices.Equal(arcs, wantArcs) {
		t.Errorf("what was handed in was changed: %v, %v", marks, arcs)
	}
}

// What is answered shares nothing with what was handed in, nor with what was answered before.
func TestAnswersAreNew(t *testing.T) {
	s := ring(3)
	first := ask(s, 3)
	for _, l := range [][]int{first.dead, first.live, first.home, Stuck(space(2))} {
		for i := range l {
			l[i] = 99
		}
		_ = append(l, 99)
	}
	if !reflect.DeepEqual(s, ring(3)) {
		t.Error("an answer shares memory with what was handed in")
	}
	again := ask(s, 3)
	s.Marks[0][0], s.Arcs[0].To = 9, 9
	if !again.same(answers{true, []int{2}, []int{0, 1}, nil, []int{0, 1, 2}, 0}) {
		t.Errorf("again: %v", again)
	}
}

func ExampleLive() {
	s := api.Space{Marks: [][]int{{1, 0}, {0, 1}}, Arcs: []api.Arc{{From: 0, Tran: 0, To: 1}}}
	fmt.Println(Live(s, 2), Dead(s, 2), Stuck(s))
	s.Arcs = append(s.Arcs, api.Arc{From: 1, Tran: 1, To: 0})
	fmt.Println(Live(s, 2), Dead(s, 2), Stuck(s))
	// Output:
	// [] [1] [1]
	// [0 1] [] []
}

func ExampleHome() {
	s := api.Space{Marks: [][]int{{2, 0}, {0, 3}}, Arcs: []api.Arc{{From: 0, Tran: 0, To: 1}}}
	fmt.Println(Home(s), Bound(s), Right(s))
	// Output: [1] 3 true
}
