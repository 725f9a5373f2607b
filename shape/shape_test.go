package shape

import (
	"fmt"
	"math"
	"reflect"
	"slices"
	"testing"

	"tokenhall/api"
	"tokenhall/net"
)

// one is as many numbers as there are places, with 1 at those that are said.
func one(places int, at ...int) []int {
	m := make([]int, places)
	for _, p := range at {
		m[p] = 1
	}
	return m
}

// step goes from one place to another.
func step(places, from, to int) api.Tran {
	return api.Tran{Label: 1, Pre: one(places, from), Post: one(places, to)}
}

func made(places int, trans ...api.Tran) api.Net {
	return api.Net{Places: places, Trans: trans}
}

// row goes from place to place, from the first one to the last one.
func row(places int) api.Net {
	n := made(places)
	for p := range places - 1 {
		n.Trans = append(n.Trans, step(places, p, p+1))
	}
	return n
}

// beside has as many transitions from place 0 to place 1 as is said.
func beside(trans int) api.Net {
	n := made(2)
	for range trans {
		n.Trans = append(n.Trans, step(2, 0, 1))
	}
	return n
}

func TestStart(t *testing.T) {
	for _, c := range []struct {
		places, i int
		want      []int
	}{
		{0, 0, nil},
		{0, -1, nil},
		{-1, 0, nil},
		{-1, -1, nil},
		{math.MinInt, 0, nil},
		{1, 0, []int{1}},
		{1, 1, []int{0}},
		{1, -1, []int{0}},
		{3, 0, []int{1, 0, 0}},
		{3, 1, []int{0, 1, 0}},
		{3, 2, []int{0, 0, 1}},
		{3, 3, []int{0, 0, 0}},
		{3, -1, []int{0, 0, 0}},
		{3, math.MaxInt, []int{0, 0, 0}},
		{3, math.MinInt, []int{0, 0, 0}},
		{16, 15, one(16, 15)},
		{16, 16, one(16)},
		{17, 15, one(16, 15)},
		{17, 16, one(16)},
		{math.MaxInt, 0, one(16, 0)},
		{math.MaxInt, math.MaxInt - 1, one(16)},
	} {
		if got := Start(made(c.places), c.i); !slices.Equal(got, c.want) {
			t.Errorf("%d places, at %d: %v, not %v", c.places, c.i, got, c.want)
		}
	}
	if got := Start(made(2, api.Tran{Label: 99, Pre: []int{-1}}), 1); !slices.Equal(got, []int{0, 1}) {
		t.Errorf("transitions mean nothing: %v", got)
	}
}

func TestWrong(t *testing.T) {
	const form, ok = api.ErrForm, api.OK
	for _, c := range []struct {
		n    api.Net
		i, o int
		want api.Errno
		what string
	}{
		{row(2), 0, 1, ok, "one transition from the beginning to the end"},
		{row(2), 1, 0, form, "from the end to the beginning"},
		{row(2), 0, 0, form, "both are one"},
		{row(2), -1, 1, form, "the beginning is no place: too small"},
		{row(2), 2, 1, form, "the beginning is no place: too large"},
		{row(2), 0, -1, form, "the end is no place: too small"},
		{row(2), 0, 2, form, "the end is no place: too large"},
		{row(2), math.MinInt, math.MaxInt, form, "neither is a place"},
		{row(2), 5, 5, form, "neither is a place, and both are one"},
		{row(16), 0, 15, ok, "as many places as may be"},
		{row(16), 0, 14, form, "the end is taken from"},
		{row(16), 1, 15, form, "something is put at the beginning"},
		{beside(24), 0, 1, ok, "as many transitions as may be"},
		{made(0), 0, 0, form, "nothing at all"},
		{made(1), 0, 0, form, "one place alone"},
		{made(2), 0, 1, form, "no way from the beginning to the end"},
		{made(2, step(2, 1, 0), step(2, 0, 1)), 0, 1, form, "there and back"},
		{made(3, step(3, 2, 0), step(3, 0, 1)), 2, 1, ok, "the beginning need not be the first place"},
		{made(3, step(3, 0, 1), step(3, 0, 1)), 0, 1, form, "a place without anything"},
		{made(3, step(3, 0, 1), step(3, 0, 2)), 0, 1, form, "a place that is not left"},
		{made(3, step(3, 0, 1), step(3, 2, 1)), 0, 1, form, "a place that is not come to"},
		{made(3, step(3, 0, 1), step(3, 2, 2)), 0, 1, form, "a place that only itself comes to"},
		{made(4, step(4, 0, 1), step(4, 2, 3), step(4, 3, 2)), 0, 1, form, "a ring apart"},
		{made(4, step(4, 0, 1), step(4, 0, 2), step(4, 2, 3), step(4, 3, 2)), 0, 1, form, "a ring that is not left"},
		{made(4, step(4, 0, 1), step(4, 3, 1), step(4, 2, 3), step(4, 3, 2)), 0, 1, form, "a ring that is not come to"},
		{made(4, step(4, 0, 2), step(4, 2, 3), step(4, 3, 2), step(4, 3, 1)), 0, 1, ok, "a ring on the way: ways may go round"},
		{made(3, step(3, 0, 2), step(3, 2, 2), step(3, 2, 1)), 0, 1, ok, "a transition that puts back what it takes"},
		{made(3, step(3, 0, 2), step(3, 2, 1), api.Tran{Pre: one(3), Post: one(3, 2)}), 0, 1, form, "a transition that takes nothing"},
		{made(3, step(3, 0, 2), step(3, 2, 1), api.Tran{Pre: one(3, 2), Post: one(3)}), 0, 1, form, "a transition that puts nothing"},
		{made(2, step(2, 0, 1), api.Tran{Pre: one(2), Post: one(2)}), 0, 1, form, "a transition that does nothing"},
		{made(2, step(2, 0, 1), api.Tran{Pre: one(2, 0), Post: one(2, 0, 1)}), 0, 1, form, "something is put at the beginning, and at the end"},
		{made(2, step(2, 0, 1), api.Tran{Pre: one(2, 0, 1), Post: one(2, 1)}), 0, 1, form, "something is taken from the end, and from the beginning"},
		{made(3, step(3, 0, 2), api.Tran{Pre: one(3, 2), Post: []int{9, 1, 0}}, step(3, 2, 1)), 0, 1, form, "much is put at the beginning"},
		{made(3, step(3, 0, 2), api.Tran{Pre: []int{0, 9, 1}, Post: one(3, 1)}, step(3, 2, 1)), 0, 1, form, "much is taken from the end"},
		{made(4, api.Tran{Pre: one(4, 0), Post: one(4, 2, 3)}, api.Tran{Pre: one(4, 2, 3), Post: one(4, 1)}), 0, 1, ok, "side by side"},
		{made(4, api.Tran{Pre: one(4, 0), Post: one(4, 2)}, api.Tran{Pre: one(4, 2, 3), Post: one(4, 1)}), 0, 1, form, "of two that are taken one is not come to"},
		{made(4, api.Tran{Pre: one(4, 0), Post: one(4, 2, 3)}, api.Tran{Pre: one(4, 2), Post: one(4, 1)}), 0, 1, form, "of two that are put one is not left"},
		{made(4, step(4, 0, 2), step(4, 0, 3), api.Tran{Pre: one(4, 2, 3), Post: one(4, 1)}), 0, 1, ok, "the form alone counts, not whether it ever fires"},
		{made(2, api.Tran{Label: 26, Pre: []int{9, 0}, Post: []int{0, 9}}), 0, 1, ok, "weights count like one token"},
		{made(2, api.Tran{Pre: []int{1, 0}, Post: []int{0, 1}}), 0, 1, ok, "what nobody sees counts as well"},
	} {
		if got := Wrong(c.n, c.i, c.o); got != c.want {
			t.Errorf("%s: %v, not %v", c.what, got, c.want)
		}
	}
}

// What is wrong with the net itself is told first, whatever else is wrong.
func TestWrongNets(t *testing.T) {
	for _, n := range []api.Net{
		made(-1),
		made(17),
		made(math.MinInt),
		made(math.MaxInt),
		beside(25),
		made(2, api.Tran{Label: -1, Pre: one(2, 0), Post: one(2, 1)}),
		made(2, api.Tran{Label: 27, Pre: one(2, 0), Post: one(2, 1)}),
		made(2, step(2, 0, 1), api.Tran{Pre: one(1, 0), Post: one(2, 1)}),
		made(2, step(2, 0, 1), api.Tran{Pre: one(2, 0), Post: one(3, 1)}),
		made(2, step(2, 0, 1), api.Tran{}),
		made(2, api.Tran{Pre: []int{10, 0}, Post: one(2, 1)}),
		made(2, api.Tran{Pre: one(2, 0), Post: []int{0, -1}}),
	} {
		for _, x := range [][2]int{{0, 1}, {1, 0}, {0, 0}, {-1, 1}, {0, 17}, {math.MinInt, math.MaxInt}} {
			if got := Wrong(n, x[0], x[1]); got != api.ErrRange {
				t.Errorf("%v from %d to %d: %v", n, x[0], x[1], got)
			}
			c, err := Close(n, x[0], x[1])
			if err != api.ErrRange || c.Places != 0 || len(c.Trans) > 0 {
				t.Errorf("%v from %d to %d, closed: %v, %v", n, x[0], x[1], c, err)
			}
		}
	}
}

func TestClose(t *testing.T) {
	for _, c := range []struct {
		n    api.Net
		i, o int
		want api.Net
		err  api.Errno
		what string
	}{
		{row(2), 0, 1, made(2, step(2, 0, 1), api.Tran{Pre: one(2, 1), Post: one(2, 0)}), api.OK, "the document's eighth example: there are two"},
		{row(3), 0, 2, made(3, step(3, 0, 1), step(3, 1, 2), api.Tran{Pre: one(3, 2), Post: one(3, 0)}), api.OK, "a row"},
		{made(2, api.Tran{Label: 26, Pre: []int{0, 9}, Post: []int{8, 0}}), 1, 0, made(2, api.Tran{Label: 26, Pre: []int{0, 9}, Post: []int{8, 0}}, api.Tran{Pre: []int{1, 0}, Post: []int{0, 1}}), api.OK, "one token, whatever others take and put"},
		{beside(23), 0, 1, made(2, append(beside(23).Trans, api.Tran{Pre: one(2, 1), Post: one(2, 0)})...), api.OK, "room for one more"},
		{beside(24), 0, 1, api.Net{}, api.ErrFull, "no room"},
		{beside(24), 1, 0, api.Net{}, api.ErrForm, "no room, but the form comes first"},
		{beside(25), 0, 1, api.Net{}, api.ErrRange, "too many as it is"},
		{row(2), 0, 0, api.Net{}, api.ErrForm, "both are one"},
		{row(2), 1, 0, api.Net{}, api.ErrForm, "the wrong way round"},
		{row(2), 0, 2, api.Net{}, api.ErrForm, "no place"},
		{made(2), 0, 1, api.Net{}, api.ErrForm, "no way"},
		{made(0), 0, 0, api.Net{}, api.ErrForm, "nothing"},
	} {
		got, err := Close(c.n, c.i, c.o)
		if err != c.err || !reflect.DeepEqual(got, c.want) {
			t.Errorf("%s: %v, %v, not %v, %v", c.what, got, err, c.want, c.err)
		}
	}
}

// The transition that closes leads from the end to the beginning, and to nothing that begins or ends.
func TestClosedNets(t *testing.T) {
	for places := 2; places <= api.MaxPlaces; places++ {
		n := row(places)
		o := places - 1
		c, err := Close(n, 0, o)
		if err != api.OK || net.Wrong(c) != api.OK || len(c.Trans) != places {
			t.Fatalf("%d places: %v, %v", places, c, err)
		}
		m, err := net.Fire(c, Start(n, o), len(n.Trans))
		if err != api.OK || !slices.Equal(m, Start(n, 0)) {
			t.Errorf("%d places: %v, %v", places, m, err)
		}
		if got := Wrong(c, 0, o); got != api.ErrForm {
			t.Errorf("%d places, closed: %v", places, got)
		}
	}
}

// told is the promise's words of a net that is right: ways is who comes to whom, first all places, then all transitions.
func told(n api.Net, i, o int) api.Errno {
	if i < 0 || i >= n.Places || o < 0 || o >= n.Places || i == o {
		return api.ErrForm
	}
	all := n.Places + len(n.Trans)
	ways := make([][]bool, all)
	for x := range ways {
		ways[x] = make([]bool, all)
		ways[x][x] = true
	}
	for t, tran := range n.Trans {
		if tran.Post[i] > 0 || tran.Pre[o] > 0 {
			return api.ErrForm
		}
		for p := range n.Places {
			ways[p][n.Places+t] = tran.Pre[p] > 0
			ways[n.Places+t][p] = tran.Post[p] > 0
		}
	}
	for mid := range all {
		for x := range all {
			for y := range all {
				ways[x][y] = ways[x][y] || ways[x][mid] && ways[mid][y]
			}
		}
	}
	for x := range all {
		if !ways[i][x] || !ways[x][o] {
			return api.ErrForm
		}
	}
	return api.OK
}

// agrees holds one net, with all pairs of places and some that are none, against the promise's words, and answers how many pairs are well.
func agrees(t *testing.T, n api.Net) int {
	well := 0
	for i := -1; i <= n.Places; i++ {
		for o := -1; o <= n.Places; o++ {
			want := told(n, i, o)
			if got := Wrong(n, i, o); got != want {
				t.Fatalf("%v from %d to %d: %v, not %v", n, i, o, got, want)
			}
			if want == api.OK {
				well++
			}
		}
	}
	return well
}

// All nets of three places and two transitions, each of which takes and puts one token or none.
func TestAllSmallNets(t *testing.T) {
	well := 0
	for bits := range 1 << 12 {
		l := make([]int, 12)
		for b := range l {
			l[b] = bits >> b & 1
		}
		well += agrees(t, made(3, api.Tran{Pre: l[:3], Post: l[3:6]}, api.Tran{Pre: l[6:9], Post: l[9:]}))
	}
	if well < 50 {
		t.Errorf("%d are well: too few to tell", well)
	}
}

// Greater nets, most of whose transitions go from one place to another, and some to or from several.
func TestGreaterNets(t *testing.T) {
	seed := uint32(11)
	next := func(below int) int {
		seed = seed*1664525 + 1013904223
		return int(seed>>8) % below
	}
	well, spoilt := 0, 0
	for range 20000 {
		places := 2 + next(5)
		n := made(places)
		for range 1 + next(9) {
			// Mostly nothing is put at place 0, and nothing taken from the last one.
			tran := step(places, next(places-1), 1+next(places-1))
			if next(4) == 0 {
				tran.Pre[next(places-1)] = next(10)
				tran.Post[1+next(places-1)] = next(10)
			}
			if next(40) == 0 {
				tran.Pre, tran.Post = tran.Post, tran.Pre
			}
			n.Trans = append(n.Trans, tran)
		}
		if agrees(t, n) > 0 {
			well++
		} else {
			spoilt++
		}
	}
	if well < 2000 || spoilt < 2000 {
		t.Errorf("%d are well, %d are not: too few to tell", well, spoilt)
	}
}

// nil and empty lists are the same.
func TestNothing(t *testing.T) {
	for _, n := range []api.Net{{Places: 2}, {Places: 2, Trans: []api.Tran{}}} {
		if got := Wrong(n, 0, 1); got != api.ErrForm {
			t.Errorf("without transitions: %v", got)
		}
	}
	for _, tran := range []api.Tran{{}, {Pre: []int{}, Post: []int{}}, {Post: []int{}}} {
		if got := Wrong(made(0, tran), 0, 0); got != api.ErrForm {
			t.Errorf("without places: %v", got)
		}
	}
}

// Behind the end of a list there may be spare room: it is neither looked at nor changed.
func TestSpareRoom(t *testing.T) {
	spare := func(l ...int) []int { return append(l, 77)[:len(l)] }
	all := func() []api.Tran {
		return []api.Tran{{Label: 3, Pre: spare(1, 0), Post: spare(0, 1)}, {Label: 99, Pre: []int{5}}}
	}
	trans := all()
	n := api.Net{Places: 2, Trans: trans[:1]}
	got, err := Close(n, 0, 1)
	want := made(2, api.Tran{Label: 3, Pre: one(2, 0), Post: one(2, 1)}, api.Tran{Pre: one(2, 1), Post: one(2, 0)})
	if err != api.OK || !reflect.DeepEqual(got, want) {
		t.Errorf("%v, %v", got, err)
	}
	if !reflect.DeepEqual(trans, all()) || trans[0].Pre[:3][2] != 77 || trans[0].Post[:3][2] != 77 {
		t.Errorf("what was handed in was changed: %v", trans)
	}
}

// What is answered shares nothing with what was handed in.
func TestAnswersAreNew(t *testing.T) {
	n := row(3)
	want, _ := Close(row(3), 0, 2)
	got, err := Close(n, 0, 2)
	for i := range n.Trans {
		n.Trans[i].Label, n.Trans[i].Pre[0], n.Trans[i].Post[0] = 9, 9, 9
	}
	if err != api.OK || !reflect.DeepEqual(got, want) {
		t.Errorf("what was handed in was kept: %v, %v", got, err)
	}
	first := Start(n, 1)
	first[0] = 5
	if again := Start(n, 1); !slices.Equal(again, []int{0, 1, 0}) {
		t.Errorf("again: %v", again)
	}
}

// Whoever changes one list of an answer, or goes on behind its end, changes no other one.
func TestListsOfOneAnswer(t *testing.T) {
	n := row(3)
	lists := func() [][]int {
		c, _ := Close(n, 0, 2)
		var l [][]int
		for _, tran := range c.Trans {
			l = append(l, tran.Pre, tran.Post)
		}
		return l
	}
	for k := range lists() {
		want, got := lists(), lists()
		_ = append(got[k], 88)
		for p := range got[k] {
			got[k][p], want[k][p] = 99, 99
		}
		if !reflect.DeepEqual(got, want) {
			t.Errorf("list %d: %v, not %v", k, got, want)
		}
	}
	if !reflect.DeepEqual(n, row(3)) {
		t.Errorf("an answer shares memory with what was handed in: %v", n)
	}
}

func ExampleStart() {
	n := api.Net{Places: 3}
	fmt.Println(Start(n, 0), Start(n, 2), Start(n, 3))
	// Output: [1 0 0] [0 0 1] [0 0 0]
}

func ExampleWrong() {
	n := api.Net{Places: 2, Trans: []api.Tran{{Label: 1, Pre: []int{1, 0}, Post: []int{0, 1}}}}
	fmt.Println(Wrong(n, 0, 1) == api.OK, Wrong(n, 1, 0) == api.ErrForm)
	// Output: true true
}

func ExampleClose() {
	n := api.Net{Places: 2, Trans: []api.Tran{{Label: 1, Pre: []int{1, 0}, Post: []int{0, 1}}}}
	closed, err := Close(n, 0, 1)
	fmt.Println(closed, err == api.OK)
	// Output: {2 [{1 [1 0] [0 1]} {0 [0 1] [1 0]}]} true
}
