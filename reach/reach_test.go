package reach

import (
	"fmt"
	"math"
	"reflect"
	"slices"
	"testing"

	"tokenhall/api"
	"tokenhall/net"
)

const (
	full  = api.MaxTokens
	limit = api.MaxStates
)

// there goes from place 0 to place 1, and back, one for one.
func there() api.Net {
	return api.Net{Places: 2, Trans: []api.Tran{
		{Label: 1, Pre: []int{1, 0}, Post: []int{0, 1}},
		{Label: 2, Pre: []int{0, 1}, Post: []int{1, 0}},
	}}
}

// fork goes from place 0 to places 1 and 2, from each of these on, and together to the end.
func fork() api.Net {
	return api.Net{Places: 6, Trans: []api.Tran{
		{Pre: []int{0, 0, 0, 1, 1, 0}, Post: []int{0, 0, 0, 0, 0, 1}},
		{Pre: []int{0, 0, 1, 0, 0, 0}, Post: []int{0, 0, 0, 0, 1, 0}},
		{Pre: []int{0, 1, 0, 0, 0, 0}, Post: []int{0, 0, 0, 1, 0, 0}},
		{Pre: []int{1, 0, 0, 0, 0, 0}, Post: []int{0, 1, 1, 0, 0, 0}},
	}}
}

// fall loses its tokens one by one: from k tokens on there are k + 1 marks.
func fall() api.Net {
	return api.Net{Places: 1, Trans: []api.Tran{{Pre: []int{1}, Post: []int{0}}}}
}

// twins has two transitions that do the same, one that does nothing, and one that goes the same way in two steps.
func twins() api.Net {
	return api.Net{Places: 3, Trans: []api.Tran{
		{Pre: []int{1, 0, 0}, Post: []int{1, 0, 0}},
		{Pre: []int{1, 0, 0}, Post: []int{0, 0, 1}},
		{Pre: []int{0, 0, 1}, Post: []int{0, 1, 0}},
		{Pre: []int{1, 0, 0}, Post: []int{0, 1, 0}},
		{Pre: []int{1, 0, 0}, Post: []int{0, 1, 0}},
	}}
}

// source puts a token wherever it stands, as often as one likes.
func source() api.Net {
	return api.Net{Places: 1, Trans: []api.Tran{{Pre: []int{0}, Post: []int{1}}}}
}

// widest has all places and all transitions that may be: each of 15 moves a token on, the rest do nothing.
func widest() api.Net {
	n := api.Net{Places: api.MaxPlaces}
	for t := range api.MaxTrans {
		tran := api.Tran{Label: api.MaxLabel, Pre: make([]int, n.Places), Post: make([]int, n.Places)}
		if t+1 < n.Places {
			tran.Pre[t], tran.Post[t+1] = 1, 1
		}
		n.Trans = append(n.Trans, tran)
	}
	return n
}

// at is a mark with one token, at place p.
func at(places, p int) []int {
	m := make([]int, places)
	m[p] = 1
	return m
}

// changed is there with one thing that is different.
func changed(change func(n *api.Net)) api.Net {
	n := there()
	change(&n)
	return n
}

// wrong are nets that are wrong, each for one thing alone.
func wrong() map[string]api.Net {
	return map[string]api.Net{
		"-1 places":               {Places: -1},
		"the fewest places":       {Places: math.MinInt},
		"one place too many":      {Places: api.MaxPlaces + 1},
		"the most places":         {Places: math.MaxInt},
		"one transition too many": {Trans: make([]api.Tran, api.MaxTrans+1)},
		"label -1":                changed(func(n *api.Net) { n.Trans[0].Label = -1 }),
		"label too large":         changed(func(n *api.Net) { n.Trans[1].Label = api.MaxLabel + 1 }),
		"Pre of nothing":          changed(func(n *api.Net) { n.Trans[0].Pre = nil }),
		"Post of nothing":         changed(func(n *api.Net) { n.Trans[1].Post = nil }),
		"Pre too long":            changed(func(n *api.Net) { n.Trans[1].Pre = []int{0, 1, 0} }),
		"Post too short":          changed(func(n *api.Net) { n.Trans[0].Post = []int{0} }),
		"Pre below 0":             changed(func(n *api.Net) { n.Trans[1].Pre[0] = -1 }),
		"Post below 0":            changed(func(n *api.Net) { n.Trans[0].Post[0] = -1 }),
		"Pre too large":           changed(func(n *api.Net) { n.Trans[0].Pre[1] = api.MaxWeight + 1 }),
		"Post too large":          changed(func(n *api.Net) { n.Trans[1].Post[1] = math.MaxInt }),
	}
}

// sameSpace holds nil and empty lists to be the same.
func sameSpace(a, b api.Space) bool {
	return slices.EqualFunc(a.Marks, b.Marks, slices.Equal[[]int]) && slices.Equal(a.Arcs, b.Arcs)
}

func TestGraph(t *testing.T) {
	for _, c := range []struct {
		n    api.Net
		m    []int
		want api.Space
		what string
	}{
		{api.Net{}, nil, api.Space{Marks: [][]int{nil}}, "nothing"},
		{api.Net{}, []int{}, api.Space{Marks: [][]int{nil}}, "nothing, empty"},
		{api.Net{Places: 2}, []int{3, full}, api.Space{Marks: [][]int{{3, full}}}, "places alone"},
		{api.Net{Trans: make([]api.Tran, 2)}, nil, api.Space{Marks: [][]int{nil}, Arcs: []api.Arc{{From: 0, Tran: 0, To: 0}, {From: 0, Tran: 1, To: 0}}}, "transitions alone"},
		{there(), []int{0, 0}, api.Space{Marks: [][]int{{0, 0}}}, "nothing is enabled"},
		{there(), []int{2, 0}, api.Space{
			Marks: [][]int{{2, 0}, {1, 1}, {0, 2}},
			Arcs:  []api.Arc{{From: 0, Tran: 0, To: 1}, {From: 1, Tran: 0, To: 2}, {From: 1, Tran: 1, To: 0}, {From: 2, Tran: 1, To: 1}},
		}, "the document's fourth example"},
		{there(), []int{1, 1}, api.Space{
			Marks: [][]int{{1, 1}, {0, 2}, {2, 0}},
			Arcs:  []api.Arc{{From: 0, Tran: 0, To: 1}, {From: 0, Tran: 1, To: 2}, {From: 1, Tran: 1, To: 0}, {From: 2, Tran: 0, To: 0}},
		}, "the same marks, from another one on"},
		{fork(), at(6, 0), api.Space{
			Marks: [][]int{{1, 0, 0, 0, 0, 0}, {0, 1, 1, 0, 0, 0}, {0, 1, 0, 0, 1, 0}, {0, 0, 1, 1, 0, 0}, {0, 0, 0, 1, 1, 0}, {0, 0, 0, 0, 0, 1}},
			Arcs: []api.Arc{{From: 0, Tran: 3, To: 1}, {From: 1, Tran: 1, To: 2}, {From: 1, Tran: 2, To: 3},
				{From: 2, Tran: 2, To: 4}, {From: 3, Tran: 1, To: 4}, {From: 4, Tran: 0, To: 5}},
		}, "side by side: transitions rise at each mark, not over all"},
		{twins(), []int{1, 0, 0}, api.Space{
			Marks: [][]int{{1, 0, 0}, {0, 0, 1}, {0, 1, 0}},
			Arcs: []api.Arc{{From: 0, Tran: 0, To: 0}, {From: 0, Tran: 1, To: 1}, {From: 0, Tran: 3, To: 2}, {From: 0, Tran: 4, To: 2},
				{From: 1, Tran: 2, To: 2}},
		}, "all firings are arcs, also those to where one was, and side by side"},
		{fall(), []int{2}, api.Space{
			Marks: [][]int{{2}, {1}, {0}},
			Arcs:  []api.Arc{{From: 0, Tran: 0, To: 1}, {From: 1, Tran: 0, To: 2}},
		}, "one by one"},
	} {
		got, err := Graph(c.n, c.m, limit)
		if !sameSpace(got, c.want) || err != api.OK {
			t.Errorf("%s: %v, %d, not %v", c.what, got, err, c.want)
		}
		marks := len(c.want.Marks)
		if got, err := Graph(c.n, c.m, marks); !sameSpace(got, c.want) || err != api.OK {
			t.Errorf("%s, with just enough room: %v, %d", c.what, got, err)
		}
		if marks == 1 {
			continue
		}
		if got, err := Graph(c.n, c.m, marks-1); got.Marks != nil || got.Arcs != nil || err != api.ErrFull {
			t.Errorf("%s, with room for one fewer: %v, %d", c.what, got, err)
		}
	}
}

func TestGraphOfTheWidestNet(t *testing.T) {
	n := widest()
	got, err := Graph(n, at(n.Places, 0), limit)
	// At each of the 16 places one move is enabled but for the last one, and the 9 that do nothing.
	if err != api.OK || len(got.Marks) != 16 || len(got.Arcs) != 15+16*9 {
		t.Fatalf("%d marks, %d arcs, %d", len(got.Marks), len(got.Arcs), err)
	}
	for p, m := range got.Marks {
		if !slices.Equal(m, at(n.Places, p)) {
			t.Errorf("mark %d is %v", p, m)
		}
	}
	want := make([]int, 15)
	for i := range want {
		want[i] = i
	}
	if way, err := Path(n, at(n.Places, 0), at(n.Places, 15), limit); !slices.Equal(way, want) || err != api.OK {
		t.Errorf("%v, %d", way, err)
	}
}

// Marks that differ at one place alone, whichever it is, are different ones.
func TestEachPlaceCounts(t *testing.T) {
	for p := range api.MaxPlaces {
		n := api.Net{Places: api.MaxPlaces, Trans: []api.Tran{{Pre: at(api.MaxPlaces, p), Post: make([]int, api.MaxPlaces)}}}
		got, err := Graph(n, at(api.MaxPlaces, p), limit)
		if len(got.Marks) != 2 || !slices.Equal(got.Arcs, []api.Arc{{From: 0, Tran: 0, To: 1}}) || err != api.OK {
			t.Errorf("place %d: %v, %d", p, got, err)
		}
		if way, err := Path(n, at(api.MaxPlaces, p), make([]int, api.MaxPlaces), limit); !slices.Equal(way, []int{0}) || err != api.OK {
			t.Errorf("place %d: %v, %d", p, way, err)
		}
	}
}

func TestPath(t *testing.T) {
	for _, c := range []struct {
		n       api.Net
		m, goal []int
		want    []int
		err     api.Errno
		what    string
	}{
		{api.Net{}, nil, nil, nil, api.OK, "nothing"},
		{api.Net{}, nil, []int{}, nil, api.OK, "nothing, empty"},
		{api.Net{}, nil, []int{0}, nil, api.ErrNone, "a place of nothing"},
		{api.Net{Trans: make([]api.Tran, 2)}, nil, nil, nil, api.OK, "transitions alone"},
		{there(), []int{2, 0}, []int{2, 0}, nil, api.OK, "one is there, though arcs come back"},
		{there(), []int{2, 0}, []int{1, 1}, []int{0}, api.OK, "one step"},
		{there(), []int{2, 0}, []int{0, 2}, []int{0, 0}, api.OK, "two steps"},
		{there(), []int{1, 1}, []int{2, 0}, []int{1}, api.OK, "the other way"},
		{there(), []int{2, 0}, []int{0, 0}, nil, api.ErrNone, "tokens are not lost"},
		{there(), []int{2, 0}, []int{3, 0}, nil, api.ErrNone, "none come from nowhere"},
		{there(), []int{2, 0}, []int{2}, nil, api.ErrNone, "too few places"},
		{there(), []int{2, 0}, []int{2, 0, 0}, nil, api.ErrNone, "too many places"},
		{there(), []int{2, 0}, nil, nil, api.ErrNone, "no places"},
		{there(), []int{0, 0}, nil, nil, api.ErrNone, "no places, and no tokens"},
		{there(), []int{2, 0}, append([]int{2}, make([]int, 15)...), nil, api.ErrNone, "as many places as may be"},
		{there(), []int{2, 0}, append([]int{2}, make([]int, 16)...), nil, api.ErrNone, "more places than may be"},
		{there(), []int{2, 0}, []int{3, -1}, nil, api.ErrNone, "a goal that is not right"},
		{there(), []int{2, 0}, []int{full + 1, 0}, nil, api.ErrNone, "a goal that is too full"},
		{there(), []int{2, 0}, []int{math.MinInt, math.MaxInt}, nil, api.ErrNone, "the least, and the greatest"},
		{widest(), at(16, 0), append(at(16, 0), 0), nil, api.ErrNone, "one more than all places that may be"},
		{widest(), at(16, 0), append(at(16, 0), 7), nil, api.ErrNone, "something behind all places that may be"},
		{fork(), at(6, 0), []int{0, 0, 0, 1, 1, 0}, []int{3, 1, 2}, api.OK, "two ways: that by which it was found first"},
		{fork(), at(6, 0), at(6, 5), []int{3, 1, 2, 0}, api.OK, "and so was each mark ahead of it"},
		{fork(), at(6, 0), []int{0, 0, 1, 1, 0, 0}, []int{3, 2}, api.OK, "the other one of both"},
		{fork(), at(6, 5), at(6, 0), nil, api.ErrNone, "there is no way back"},
		{twins(), []int{1, 0, 0}, []int{0, 1, 0}, []int{3}, api.OK, "the least of two, and no way round"},
		{twins(), []int{1, 0, 0}, []int{1, 0, 0}, nil, api.OK, "not by what does nothing"},
		{fall(), []int{limit - 1}, []int{0}, make([]int, limit-1), api.OK, "the longest way"},
	} {
		got, err := Path(c.n, c.m, c.goal, limit)
		if !slices.Equal(got, c.want) || err != c.err {
			t.Errorf("%s: %v, %d, not %v, %d", c.what, got, err, c.want, c.err)
		}
	}
}

// both asks both calls, which must tell the same error, and nothing beside it.
func both(t *testing.T, what string, n api.Net, m []int, most int, want api.Errno) {
	t.Helper()
	space, err := Graph(n, m, most)
	if err != want || err != api.OK && (space.Marks != nil || space.Arcs != nil) {
		t.Errorf("%s, most %d: Graph tells %v, %d, not %d", what, most, space, err, want)
	}
	for _, goal := range [][]int{m, nil, {-1}, make([]int, 17)} {
		way, err := Path(n, m, goal, most)
		if err == api.ErrNone && want == api.OK {
			err = api.OK
		}
		if len(way) != 0 || err != want {
			t.Errorf("%s, most %d, goal %v: Path tells %v, %d, not %d", what, most, goal, way, err, want)
		}
	}
}

func TestRoom(t *testing.T) {
	for _, c := range []struct {
		n    api.Net
		m    []int
		most int
		want api.Errno
		what string
	}{
		{api.Net{}, nil, 1, api.OK, "one mark"},
		{there(), []int{0, 0}, 1, api.OK, "one mark of two places"},
		{there(), []int{1, 0}, 1, api.ErrFull, "two marks"},
		{there(), []int{1, 0}, 2, api.OK, "two marks, and arcs back"},
		{there(), []int{limit - 1, 0}, limit, api.OK, "as many as may be"},
		{there(), []int{limit - 1, 0}, limit - 1, api.ErrFull, "one fewer than there are"},
		{there(), []int{limit, 0}, limit, api.ErrFull, "one more than may be"},
		{fall(), []int{full}, limit, api.ErrFull, "many more"},
		{source(), []int{0}, 1, api.ErrFull, "no end, little room"},
		{source(), []int{0}, limit, api.ErrFull, "no end"},
		{source(), []int{full}, 1, api.ErrFull, "a firing too full, and no other mark"},
		{source(), []int{full}, limit, api.ErrFull, "a firing too full"},
		{source(), []int{full - 5}, limit, api.ErrFull, "a firing too full, later"},
		{there(), []int{1, full}, limit, api.ErrFull, "too full in the first firing"},
		{there(), []int{full, 1}, limit, api.ErrFull, "too full in the second firing"},
		{there(), []int{0, full}, limit, api.ErrFull, "full, and not too full, but too many marks"},
		{fall(), []int{limit - 1}, limit, api.OK, "down to nothing"},
		{api.Net{Places: 2, Trans: []api.Tran{{Pre: []int{1, 9}, Post: []int{0, 9}}}}, []int{3, full}, limit, api.OK, "full, and takes what it puts"},
		{api.Net{Places: 2, Trans: []api.Tran{{Pre: []int{1, 8}, Post: []int{0, 9}}}}, []int{3, full}, limit, api.ErrFull, "full, and puts one more than it takes"},
	} {
		both(t, c.what, c.n, c.m, c.most, c.want)
	}
}

func TestRange(t *testing.T) {
	outside := []int{0, -1, limit + 1, math.MinInt, math.MaxInt}
	for _, most := range outside {
		both(t, "nothing", api.Net{}, nil, most, api.ErrRange)
		both(t, "ordinary", there(), []int{2, 0}, most, api.ErrRange)
		both(t, "no end", source(), []int{full}, most, api.ErrRange)
	}
	for _, most := range append(outside, 1, 2, limit) {
		for what, n := range wrong() {
			for _, m := range [][]int{nil, {}, {0, 0}, {1, 0}, {-1, 0}, make([]int, 17)} {
				both(t, what, n, m, most, api.ErrRange)
			}
		}
		for _, m := range [][]int{nil, {}, {2}, {2, 0, 0}, {-1, 2}, {2, -1}, {full + 1, 0}, {0, full + 1}, {math.MinInt, 0}, {0, math.MaxInt}} {
			both(t, fmt.Sprintf("mark %v", m), there(), m, most, api.ErrRange)
		}
		both(t, "a mark of nothing", api.Net{}, []int{0}, most, api.ErrRange)
	}
}

// some are nets of two places, with all transitions of small weights two by two.
func some(check func(n api.Net)) {
	var trans []api.Tran
	for i := range 81 {
		trans = append(trans, api.Tran{Pre: []int{i % 3, i / 3 % 3}, Post: []int{i / 9 % 3, i / 27}})
	}
	for i := range trans {
		for j := i % 5; j < len(trans); j += 5 {
			check(api.Net{Places: 2, Trans: []api.Tran{trans[i], trans[j]}})
		}
	}
}

// told is what the promise tells, by lists alone: the marks, the arcs, and the runs by which marks were found.
func told(n api.Net, m []int, most int) (space api.Space, runs [][]int, err api.Errno) {
	space.Marks, runs = [][]int{m}, [][]int{nil}
	for from := 0; from < len(space.Marks); from++ {
		for t := range n.Trans {
			run := append(slices.Clone(runs[from]), t)
			next, err := net.Run(n, m, run)
			if err == api.ErrNone {
				continue
			}
			if err != api.OK {
				return api.Space{}, nil, err
			}
			to := slices.IndexFunc(space.Marks, func(x []int) bool { return slices.Equal(x, next) })
			if to < 0 {
				to = len(space.Marks)
				space.Marks, runs = append(space.Marks, next), append(runs, run)
			}
			if len(space.Marks) > most {
				return api.Space{}, nil, api.ErrFull
			}
			space.Arcs = append(space.Arcs, api.Arc{From: from, Tran: t, To: to})
		}
	}
	return space, runs, api.OK
}

// Many nets against the promises' words.
func TestManyNets(t *testing.T) {
	spaces, fulls := 0, 0
	some(func(n api.Net) {
		for _, m := range [][]int{{2, 1}, {0, 5}, {full - 1, 1}} {
			want, runs, wantErr := told(n, m, 12)
			got, err := Graph(n, m, 12)
			if !sameSpace(got, want) || err != wantErr {
				t.Fatalf("%v from %v on: %v, %d, not %v, %d", n, m, got, err, want, wantErr)
			}
			if err != api.OK {
				fulls++
				continue
			}
			spaces++
			for i, goal := range want.Marks {
				if way, err := Path(n, m, goal, 12); !slices.Equal(way, runs[i]) || err != api.OK {
					t.Fatalf("%v from %v to %v: %v, %d, not %v", n, m, goal, way, err, runs[i])
				}
			}
		}
	})
	if spaces < 100 || fulls < 100 {
		t.Errorf("%d spaces, and %d too full: too few to tell", spaces, fulls)
	}
}

// Whoever is there goes nowhere else: from any mark of a space on, all marks are of that space.
func TestSpacesAreClosed(t *testing.T) {
	for _, c := range []struct {
		n api.Net
		m []int
	}{{there(), []int{3, 1}}, {fork(), at(6, 0)}, {fork(), []int{2, 0, 0, 0, 0, 0}}, {twins(), []int{2, 0, 0}}, {fall(), []int{7}}} {
		all, err := Graph(c.n, c.m, limit)
		if err != api.OK {
			t.Fatal(err)
		}
		for _, m := range all.Marks {
			part, err := Graph(c.n, m, len(all.Marks))
			if err != api.OK || !slices.Equal(part.Marks[0], m) {
				t.Fatalf("from %v on: %v, %d", m, part, err)
			}
			for _, x := range part.Marks {
				if !slices.ContainsFunc(all.Marks, func(y []int) bool { return slices.Equal(x, y) }) {
					t.Errorf("from %v on there is %v", m, x)
				}
			}
		}
		for _, a := range all.Arcs {
			if m, err := net.Fire(c.n, all.Marks[a.From], a.Tran); !slices.Equal(m, all.Marks[a.To]) || err != api.OK {
				t.Errorf("arc %v comes to %v, %d", a, m, err)
			}
		}
	}
}

// Behind the end of a list there may be spare room: it is neither looked at nor changed.
func TestSpareRoom(t *testing.T) {
	pre, post := []int{1, 0, 99, 99}, []int{0, 1, -1, -1}
	m, goal := []int{2, 0, -5, -5}, []int{0, 2, -6, -6}
	room := []api.Tran{{Label: 1, Pre: pre[:2], Post: post[:2]}, {Label: 99}}
	n := api.Net{Places: 2, Trans: room[:1]}
	space, err := Graph(n, m[:2], 3)
	if len(space.Marks) != 3 || len(space.Arcs) != 2 || err != api.OK {
		t.Errorf("%v, %d", space, err)
	}
	if way, err := Path(n, m[:2], goal[:2], 3); !slices.Equal(way, []int{0, 0}) || err != api.OK {
		t.Errorf("%v, %d", way, err)
	}
	for _, l := range []struct{ got, want []int }{
		{pre, []int{1, 0, 99, 99}}, {post, []int{0, 1, -1, -1}}, {m, []int{2, 0, -5, -5}}, {goal, []int{0, 2, -6, -6}},
	} {
		if !slices.Equal(l.got, l.want) {
			t.Errorf("%v was changed to %v", l.want, l.got)
		}
	}
	if room[1].Label != 99 || room[1].Pre != nil || room[1].Post != nil {
		t.Error("the room behind the transitions was changed")
	}
}

// What is answered shares nothing with what was handed in, and no two lists of it share anything.
func TestAnswersAreNew(t *testing.T) {
	n, m, goal := there(), []int{2, 0}, []int{0, 2}
	space, _ := Graph(n, m, limit)
	way, _ := Path(n, m, goal, limit)
	for i, x := range space.Marks {
		for p := range x {
			x[p] = 10*i + p
		}
		_ = append(x, 99)
	}
	for i := range way {
		way[i] = 77
	}
	for i, x := range space.Marks {
		if !slices.Equal(x, []int{10 * i, 10*i + 1}) {
			t.Errorf("two marks share memory: %v", space.Marks)
		}
	}
	if !reflect.DeepEqual(n, there()) || !slices.Equal(m, []int{2, 0}) || !slices.Equal(goal, []int{0, 2}) {
		t.Error("an answer shares memory with what was handed in")
	}
	again, _ := Graph(n, m, limit)
	m[0], n.Trans[0].Pre[0], n.Trans[0].Post[1] = 9, 9, 9
	if !reflect.DeepEqual(again.Marks, [][]int{{2, 0}, {1, 1}, {0, 2}}) || len(again.Arcs) != 4 {
		t.Errorf("again: %v", again)
	}
}

func ExampleGraph() {
	n := api.Net{Places: 2, Trans: []api.Tran{
		{Label: 1, Pre: []int{1, 0}, Post: []int{0, 1}},
		{Label: 2, Pre: []int{0, 1}, Post: []int{1, 0}},
	}}
	space, err := Graph(n, []int{2, 0}, 10)
	fmt.Println(space.Marks, space.Arcs, err == api.OK)
	// Output: [[2 0] [1 1] [0 2]] [{0 0 1} {1 0 2} {1 1 0} {2 1 1}] true
}

func ExamplePath() {
	n := api.Net{Places: 2, Trans: []api.Tran{
		{Label: 1, Pre: []int{1, 0}, Post: []int{0, 1}},
		{Label: 2, Pre: []int{0, 1}, Post: []int{1, 0}},
	}}
	way, err := Path(n, []int{2, 0}, []int{0, 2}, 10)
	fmt.Println(way, err == api.OK)
	// Output: [0 0] true
}
