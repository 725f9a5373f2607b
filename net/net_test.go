package net

import (
	"fmt"
	"math"
	"reflect"
	"slices"
	"testing"

	"tokenhall/api"
)

const most = api.MaxTokens

// swap goes from place 0 to place 1, two for one, and back, one for one.
func swap() api.Net {
	return api.Net{Places: 2, Trans: []api.Tran{
		{Label: 1, Pre: []int{1, 0}, Post: []int{0, 2}},
		{Label: 2, Pre: []int{0, 1}, Post: []int{1, 0}},
	}}
}

// busy has transitions that take much, nothing, what they put, and at several places.
func busy() api.Net {
	return api.Net{Places: 3, Trans: []api.Tran{
		{Pre: []int{2, 0, 1}, Post: []int{0, 3, 0}},
		{Pre: []int{0, 0, 0}, Post: []int{0, 0, 1}},
		{Label: 7, Pre: []int{1, 1, 0}, Post: []int{1, 1, 0}},
		{Label: 7, Pre: []int{0, 9, 0}, Post: []int{9, 0, 9}},
		{Label: 26, Pre: []int{0, 0, 1}, Post: []int{0, 0, 0}},
	}}
}

// largest is at every limit at once.
func largest() api.Net {
	n := api.Net{Places: api.MaxPlaces}
	for range api.MaxTrans {
		n.Trans = append(n.Trans, api.Tran{
			Label: api.MaxLabel,
			Pre:   slices.Repeat([]int{api.MaxWeight}, api.MaxPlaces),
			Post:  slices.Repeat([]int{api.MaxWeight}, api.MaxPlaces),
		})
	}
	return n
}

func copied(n api.Net) api.Net {
	out := api.Net{Places: n.Places}
	for _, t := range n.Trans {
		out.Trans = append(out.Trans, api.Tran{Label: t.Label, Pre: slices.Clone(t.Pre), Post: slices.Clone(t.Post)})
	}
	return out
}

// changed is n, copied, with one thing that is different.
func changed(n api.Net, change func(n *api.Net)) api.Net {
	out := copied(n)
	change(&out)
	return out
}

// wrong are nets that are wrong, each for one thing alone.
func wrong() map[string]api.Net {
	out := map[string]api.Net{
		"-1 places":          {Places: -1},
		"the fewest places":  {Places: math.MinInt},
		"one place too many": {Places: api.MaxPlaces + 1},
		"the most places":    {Places: math.MaxInt},
		"too many places, all told": {Places: api.MaxPlaces + 1, Trans: []api.Tran{{
			Pre: make([]int, api.MaxPlaces+1), Post: make([]int, api.MaxPlaces+1)}}},
		"one transition too many": changed(largest(), func(n *api.Net) { n.Trans = append(n.Trans, n.Trans[0]) }),
		"too many without places": {Trans: make([]api.Tran, api.MaxTrans+1)},
		"Pre of nothing":          changed(swap(), func(n *api.Net) { n.Trans[1].Pre = nil }),
		"Post of nothing":         changed(swap(), func(n *api.Net) { n.Trans[1].Post = nil }),
		"Pre of no place":         {Trans: []api.Tran{{Pre: []int{0}}}},
		"Post of no place":        {Trans: []api.Tran{{Post: []int{0}}}},
	}
	for i := range 2 {
		for _, l := range []int{-1, api.MaxLabel + 1, math.MinInt, math.MaxInt} {
			out[fmt.Sprintf("label %d at %d", l, i)] = changed(swap(), func(n *api.Net) { n.Trans[i].Label = l })
		}
		for _, l := range [][]int{{1}, {1, 0, 0}} {
			out[fmt.Sprintf("Pre %v at %d", l, i)] = changed(swap(), func(n *api.Net) { n.Trans[i].Pre = l })
			out[fmt.Sprintf("Post %v at %d", l, i)] = changed(swap(), func(n *api.Net) { n.Trans[i].Post = l })
		}
		for p := range 2 {
			for _, w := range []int{-1, api.MaxWeight + 1, math.MinInt, math.MaxInt} {
				out[fmt.Sprintf("Pre %d at %d, %d", w, i, p)] = changed(swap(), func(n *api.Net) { n.Trans[i].Pre[p] = w })
				out[fmt.Sprintf("Post %d at %d, %d", w, i, p)] = changed(swap(), func(n *api.Net) { n.Trans[i].Post[p] = w })
			}
		}
	}
	return out
}

func TestWrong(t *testing.T) {
	for what, n := range map[string]api.Net{
		"nothing":                 {},
		"places alone":            {Places: api.MaxPlaces},
		"transitions alone":       {Trans: make([]api.Tran, api.MaxTrans)},
		"empty lists of no place": {Trans: []api.Tran{{Pre: []int{}, Post: []int{}}}},
		"ordinary":                swap(),
		"busy":                    busy(),
		"every limit":             largest(),
		"noughts":                 {Places: 1, Trans: []api.Tran{{Pre: []int{0}, Post: []int{0}}}},
	} {
		if err := Wrong(n); err != api.OK {
			t.Errorf("%s: %d", what, err)
		}
	}
	for what, n := range wrong() {
		if err := Wrong(n); err != api.ErrRange {
			t.Errorf("%s: %d", what, err)
		}
	}
}

func TestEnabled(t *testing.T) {
	for _, c := range []struct {
		n    api.Net
		m    []int
		want []int
		what string
	}{
		{api.Net{}, nil, nil, "nothing"},
		{api.Net{}, []int{}, nil, "nothing, empty"},
		{api.Net{Trans: make([]api.Tran, 2)}, nil, []int{0, 1}, "what takes nothing of nothing"},
		{swap(), []int{0, 0}, nil, "no tokens"},
		{swap(), []int{1, 0}, []int{0}, "one"},
		{swap(), []int{0, 1}, []int{1}, "the other one"},
		{swap(), []int{5, 5}, []int{0, 1}, "both"},
		{swap(), []int{most, most}, []int{0, 1}, "full ones as well"},
		{busy(), []int{0, 0, 0}, []int{1}, "what takes nothing"},
		{busy(), []int{1, 0, 1}, []int{1, 4}, "one too few for the first one"},
		{busy(), []int{2, 0, 0}, []int{1}, "one too few elsewhere"},
		{busy(), []int{2, 0, 1}, []int{0, 1, 4}, "just enough"},
		{busy(), []int{1, 8, 0}, []int{1, 2}, "8 are not 9"},
		{busy(), []int{2, 9, 1}, []int{0, 1, 2, 3, 4}, "all"},
		{largest(), slices.Repeat([]int{8}, 16), nil, "too few everywhere"},
	} {
		got, err := Enabled(c.n, c.m)
		if !slices.Equal(got, c.want) || err != api.OK {
			t.Errorf("%s: %v, %d", c.what, got, err)
		}
	}
}

func TestFire(t *testing.T) {
	for _, c := range []struct {
		n    api.Net
		m    []int
		t    int
		want []int
		err  api.Errno
		what string
	}{
		{swap(), []int{1, 0}, 0, []int{0, 2}, api.OK, "the document's second example"},
		{swap(), []int{0, 2}, 1, []int{1, 1}, api.OK, "one back"},
		{swap(), []int{0, 2}, 0, nil, api.ErrNone, "nothing to take"},
		{swap(), []int{1, 1}, 2, nil, api.ErrNone, "behind the last one"},
		{swap(), []int{1, 1}, -1, nil, api.ErrNone, "ahead of the first one"},
		{swap(), []int{1, 1}, math.MaxInt, nil, api.ErrNone, "the greatest one"},
		{swap(), []int{1, 1}, math.MinInt, nil, api.ErrNone, "the least one"},
		{swap(), []int{1, most - 2}, 0, []int{0, most}, api.OK, "just full"},
		{swap(), []int{1, most - 1}, 0, nil, api.ErrFull, "one too many"},
		{swap(), []int{1, most}, 0, nil, api.ErrFull, "two too many"},
		{swap(), []int{0, most}, 0, nil, api.ErrNone, "nothing to take is told ahead of full"},
		{busy(), []int{most, most, 0}, 2, []int{most, most, 0}, api.OK, "a full place takes and puts"},
		{busy(), []int{0, 0, most}, 1, nil, api.ErrFull, "out of nothing into what is full"},
		{busy(), []int{0, 0, most}, 4, []int{0, 0, most - 1}, api.OK, "into nothing"},
		{busy(), []int{2, 4, 1}, 0, []int{0, 7, 0}, api.OK, "several places"},
		{busy(), []int{2, 4, 0}, 0, nil, api.ErrNone, "several places, one lacks"},
		{busy(), []int{0, 9, 0}, 3, []int{9, 0, 9}, api.OK, "nine"},
		{api.Net{}, nil, 0, nil, api.ErrNone, "no transition at all"},
		{api.Net{Trans: make([]api.Tran, 1)}, nil, 0, nil, api.OK, "no place at all"},
	} {
		got, err := Fire(c.n, c.m, c.t)
		if !slices.Equal(got, c.want) || err != c.err {
			t.Errorf("%s: %v, %d", c.what, got, err)
		}
	}
}

func TestRun(t *testing.T) {
	for _, c := range []struct {
		n    api.Net
		m    []int
		seq  []int
		want []int
		err  api.Errno
		what string
	}{
		{swap(), []int{1, 0}, nil, []int{1, 0}, api.OK, "nothing fires"},
		{swap(), []int{1, 0}, []int{}, []int{1, 0}, api.OK, "nothing fires, empty"},
		{api.Net{}, nil, nil, nil, api.OK, "nothing at all"},
		{swap(), []int{2, 0}, []int{0, 0, 1}, []int{1, 3}, api.OK, "the document's third example"},
		{swap(), []int{1, 0}, []int{0, 1, 0, 1}, []int{1, 2}, api.OK, "by turns"},
		{swap(), []int{1, 0}, []int{0, 0}, nil, api.ErrNone, "the second one can't"},
		{swap(), []int{1, 0}, []int{1, 0}, nil, api.ErrNone, "the first one can't"},
		{swap(), []int{1, 0}, []int{0, 2}, nil, api.ErrNone, "there is none"},
		{swap(), []int{1, 0}, []int{0, -1, 1}, nil, api.ErrNone, "there is none in the middle"},
		{swap(), []int{1, most - 1}, []int{0, 7}, nil, api.ErrFull, "full first, none behind it"},
		{swap(), []int{1, most - 1}, []int{7, 0}, nil, api.ErrNone, "none first, full behind it"},
		{swap(), []int{1, most - 1}, []int{1, 0}, []int{1, most}, api.OK, "room is made first"},
		{busy(), []int{0, 0, 0}, slices.Repeat([]int{1}, 1000), []int{0, 0, 1000}, api.OK, "a thousand times"},
		{busy(), []int{0, 0, most - 3}, []int{1, 1, 1}, []int{0, 0, most}, api.OK, "until it is full"},
		{busy(), []int{0, 0, most - 3}, []int{1, 1, 1, 1}, nil, api.ErrFull, "until it is too full"},
	} {
		got, err := Run(c.n, c.m, c.seq)
		if !slices.Equal(got, c.want) || err != c.err {
			t.Errorf("%s: %v, %d", c.what, got, err)
		}
	}
}

// calls are all calls that ask for a net and a mark, with a transition that may not be there.
func calls(n api.Net, m []int, t int) (lists [4][]int, errs [4]api.Errno) {
	lists[0], errs[0] = Enabled(n, m)
	lists[1], errs[1] = Fire(n, m, t)
	lists[2], errs[2] = Run(n, m, nil)
	lists[3], errs[3] = Run(n, m, []int{t})
	return lists, errs
}

// A wrong net, or a mark that is none of the net's, is told ahead of everything, by every call.
func TestRangeGoesAhead(t *testing.T) {
	check := func(what string, n api.Net, m []int) {
		for _, tran := range []int{0, 1, -1, 99} {
			lists, errs := calls(n, m, tran)
			for i := range lists {
				if lists[i] != nil || errs[i] != api.ErrRange {
					t.Errorf("%s, mark %v, transition %d, call %d: %v, %d", what, m, tran, i, lists[i], errs[i])
				}
			}
		}
	}
	for what, n := range wrong() {
		marks := [][]int{nil, {}, {0, 0}, {5, 5}, {-1, 0}, make([]int, 17)}
		if 0 <= n.Places && n.Places <= 100 {
			marks = append(marks, slices.Repeat([]int{9}, n.Places))
		}
		for _, m := range marks {
			check(what, n, m)
		}
	}
	for _, m := range [][]int{nil, {}, {5}, {5, 5, 0}, {-1, 5}, {5, -1}, {most + 1, 5}, {5, most + 1}, {math.MinInt, 5}, {5, math.MaxInt}} {
		check("no mark of it", swap(), m)
	}
	check("no mark of nothing", api.Net{}, []int{0})
}

// All marks of few tokens, and some full ones, against the promise's words, place by place.
func TestAllMarks(t *testing.T) {
	tokens := []int{0, 1, 2, 8, 9, most - 1, most}
	n := busy()
	for _, a := range tokens {
		for _, b := range tokens {
			for _, c := range tokens {
				var able []int
				m := []int{a, b, c}
				for i, tran := range n.Trans {
					want, err := make([]int, 3), api.OK
					for p := range m {
						want[p] = m[p] - tran.Pre[p] + tran.Post[p]
						if want[p] > most && err == api.OK {
							err = api.ErrFull
						}
						if m[p] < tran.Pre[p] {
							err = api.ErrNone
						}
					}
					if err != api.ErrNone {
						able = append(able, i)
					}
					if err != api.OK {
						want = nil
					}
					one, oneErr := Fire(n, m, i)
					run, runErr := Run(n, m, []int{i})
					if !slices.Equal(one, want) || oneErr != err || !slices.Equal(run, want) || runErr != err {
						t.Errorf("%v by %d is %v, %d, and %v, %d, not %v, %d", m, i, one, oneErr, run, runErr, want, err)
					}
				}
				if got, err := Enabled(n, m); !slices.Equal(got, able) || err != api.OK {
					t.Errorf("at %v there are %v, %d, not %v", m, got, err, able)
				}
			}
		}
	}
}

func TestTurned(t *testing.T) {
	want := api.Net{Places: 2, Trans: []api.Tran{
		{Label: 1, Pre: []int{0, 2}, Post: []int{1, 0}},
		{Label: 2, Pre: []int{1, 0}, Post: []int{0, 1}},
	}}
	if got := Turned(swap()); !reflect.DeepEqual(got, want) {
		t.Errorf("%v", got)
	}
	nets := wrong()
	nets["nothing"], nets["busy"], nets["largest"] = api.Net{}, busy(), largest()
	nets["odd"] = api.Net{Places: -7, Trans: []api.Tran{{Label: -1, Pre: []int{math.MinInt}, Post: []int{4, 5, math.MaxInt}}}}
	for what, n := range nets {
		got := Turned(n)
		if got.Places != n.Places || len(got.Trans) != len(n.Trans) {
			t.Fatalf("%s: of %v comes %v", what, n, got)
		}
		for i, tran := range n.Trans {
			back := got.Trans[i]
			if back.Label != tran.Label || !slices.Equal(back.Pre, tran.Post) || !slices.Equal(back.Post, tran.Pre) {
				t.Errorf("%s: of %v comes %v", what, tran, back)
			}
		}
	}
}

// What fires can be turned back by the turned net.
func TestTurnedGoesBack(t *testing.T) {
	for _, n := range []api.Net{swap(), busy()} {
		m := slices.Repeat([]int{9}, n.Places)
		for i := range n.Trans {
			there, _ := Fire(n, m, i)
			back, err := Fire(Turned(n), there, i)
			if !slices.Equal(back, m) || err != api.OK {
				t.Errorf("%v by %d is %v, and back %v, %d", m, i, there, back, err)
			}
		}
	}
}

// Behind the end of a list there may be spare room: it is neither looked at nor changed.
func TestSpareRoom(t *testing.T) {
	pre, post, m, seq := []int{1, 0, 99, 99}, []int{0, 2, -1, -1}, []int{1, 0, -5, -5}, []int{0, 98, 98}
	room := []api.Tran{{Label: 1, Pre: pre[:2], Post: post[:2]}, {Label: 99, Pre: nil}}
	n := api.Net{Places: 2, Trans: room[:1]}
	if Wrong(n) != api.OK {
		t.Error("the room behind the end is looked at")
	}
	got, err := Run(n, m[:2], seq[:1])
	if !slices.Equal(got, []int{0, 2}) || err != api.OK {
		t.Errorf("%v, %d", got, err)
	}
	calls(n, m[:2], 0)
	Turned(n)
	if !slices.Equal(pre, []int{1, 0, 99, 99}) || !slices.Equal(post, []int{0, 2, -1, -1}) ||
		!slices.Equal(m, []int{1, 0, -5, -5}) || !slices.Equal(seq, []int{0, 98, 98}) || room[1].Label != 99 {
		t.Error("what was handed in, or the room behind it, was changed")
	}
}

// What is answered shares nothing with what was handed in, and no two lists of it share anything.
func TestAnswersAreNew(t *testing.T) {
	n, m := busy(), []int{9, 9, 9}
	for _, tran := range []int{1, 2} {
		lists, _ := calls(n, m, tran)
		for _, l := range lists {
			for p := range l {
				l[p] = 77
			}
		}
		if !slices.Equal(m, []int{9, 9, 9}) || !reflect.DeepEqual(n, busy()) {
			t.Fatal("an answer shares memory with what was handed in")
		}
	}
	turned := Turned(n)
	for i := range turned.Trans {
		for _, l := range [][]int{turned.Trans[i].Pre, turned.Trans[i].Post} {
			for p := range l {
				l[p] = 10*i + p
			}
			_ = append(l, 99)
		}
		turned.Trans[i].Pre[0] = -1
		turned.Trans[i].Label = 5
	}
	if !reflect.DeepEqual(n, busy()) {
		t.Fatal("what Turned answered shares memory with what was handed in")
	}
	for i, tran := range turned.Trans {
		if !slices.Equal(tran.Pre, []int{-1, 10*i + 1, 10*i + 2}) || !slices.Equal(tran.Post, []int{10 * i, 10*i + 1, 10*i + 2}) {
			t.Fatalf("two lists of what Turned answered share memory: %v", turned)
		}
	}
}

// One list that is handed in for several of a net's is answered as lists of their own.
func TestTurnedOfSharedLists(t *testing.T) {
	one := []int{1, 1}
	got := Turned(api.Net{Places: 2, Trans: []api.Tran{{Pre: one, Post: one}, {Pre: one, Post: one}}})
	got.Trans[0].Pre[0] = 3
	if got.Trans[0].Post[0] != 1 || got.Trans[1].Pre[0] != 1 || got.Trans[1].Post[0] != 1 || one[0] != 1 {
		t.Errorf("lists are shared: %v, %v", got, one)
	}
}

func ExampleRun() {
	n := api.Net{Places: 2, Trans: []api.Tran{
		{Label: 1, Pre: []int{1, 0}, Post: []int{0, 2}},
		{Label: 2, Pre: []int{0, 1}, Post: []int{1, 0}},
	}}
	m, err := Run(n, []int{2, 0}, []int{0, 0, 1})
	fmt.Println(m, err == api.OK)
	// Output: [1 3] true
}
