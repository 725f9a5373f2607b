package sound

import (
	"fmt"
	"math"
	"reflect"
	"slices"
	"testing"

	"tokenhall/api"
	"tokenhall/live"
	"tokenhall/net"
	"tokenhall/reach"
	"tokenhall/shape"
)

const most = api.MaxStates

// one is as many numbers as there are places, with 1 at those that are said.
func one(places int, at ...int) []int {
	m := make([]int, places)
	for _, p := range at {
		m[p] = 1
	}
	return m
}

// step goes from one place to another.
func step(places, from, to int) api.Tran {
	return api.Tran{Label: 1, Pre: one(places, from), Post: one(places, to)}
}

// tran takes and puts what is said.
func tran(pre, post []int) api.Tran {
	return api.Tran{Label: 2, Pre: pre, Post: post}
}

func made(places int, trans ...api.Tran) api.Net {
	return api.Net{Places: places, Trans: trans}
}

// row goes from place to place, from the first one to the last one.
func row(places int) api.Net {
	n := made(places)
	for p := range places - 1 {
		n.Trans = append(n.Trans, step(places, p, p+1))
	}
	return n
}

// wide goes from place to place, ahead of them, and then has 6 times 7 times 7 marks of three heaps that are moved side by side, and the end, which is its last place.
func wide(ahead int) api.Net {
	places := ahead + 7
	n := made(places)
	for p := range ahead - 1 {
		n.Trans = append(n.Trans, step(places, p, p+1))
	}
	full, done := one(places), one(places)
	for k, heap := range []int{5, 6, 6} {
		from, to := ahead+2*k, ahead+2*k+1
		full[from], done[to] = heap, heap
		n.Trans = append(n.Trans, step(places, from, to))
	}
	n.Trans = append(n.Trans, tran(one(places, ahead-1), full), tran(done, one(places, places-1)))
	return n
}

// same holds nil and empty marks to be the same.
func same(a, b api.Verdict) bool {
	return a.Kind == b.Kind && slices.Equal(a.At, b.At) && a.Tran == b.Tran
}

func good() api.Verdict               { return api.Verdict{Kind: api.Sound} }
func extra(at ...int) api.Verdict     { return api.Verdict{Kind: api.Extra, At: at} }
func stuck(at ...int) api.Verdict     { return api.Verdict{Kind: api.Stuck, At: at} }
func dead(transition int) api.Verdict { return api.Verdict{Kind: api.DeadTran, Tran: transition} }

func TestJudge(t *testing.T) {
	for _, c := range []struct {
		n    api.Net
		i, o int
		want api.Verdict
		what string
	}{
		{row(2), 0, 1, good(), "one transition"},
		{row(16), 0, 15, good(), "as many places as may be"},
		{made(3, step(3, 2, 0), step(3, 0, 1)), 2, 1, good(), "the beginning need not be the first place"},
		{made(2, slices.Repeat([]api.Tran{step(2, 0, 1)}, 24)...), 0, 1, good(), "as many transitions as may be, to choose from"},
		{made(2, api.Tran{Pre: one(2, 0), Post: one(2, 1)}), 0, 1, good(), "what nobody sees counts as well"},
		{made(4, tran(one(4, 0), one(4, 2, 3)), tran(one(4, 2, 3), one(4, 1))), 0, 1, good(), "side by side"},
		{made(3, tran(one(3, 0), []int{0, 0, 9}), tran([]int{0, 0, 9}, one(3, 1))), 0, 1, good(), "all of nine are taken at once"},
		{made(4, step(4, 0, 2), step(4, 2, 3), step(4, 3, 2), step(4, 3, 1)), 0, 1, good(), "a ring that can be left"},
		{made(3, step(3, 0, 2), step(3, 2, 2), step(3, 2, 1)), 0, 1, good(), "what puts back what it takes"},
		{wide(5), 0, 11, good(), "as many marks as may be"},

		{made(2, tran([]int{1, 0}, []int{0, 2})), 0, 1, extra(0, 2), "the document's ninth example: two tokens at the end"},
		{made(2, step(2, 0, 1), tran([]int{1, 0}, []int{0, 9})), 0, 1, extra(0, 9), "one way of two puts too many"},
		{made(3, tran(one(3, 0), one(3, 1, 2)), step(3, 2, 1)), 0, 1, extra(0, 1, 1), "the end, and something beside"},
		{made(4, step(4, 0, 2), tran(one(4, 2), one(4, 1, 3)), step(4, 3, 1)), 0, 1, extra(0, 1, 0, 1), "the first one is not the second mark"},
		{made(3, tran(one(3, 0), []int{0, 0, 2}), step(3, 2, 1)), 0, 1, extra(0, 1, 1), "the first one of several, in their order"},
		{made(4, step(4, 0, 2), step(4, 0, 3), tran(one(4, 3), []int{0, 2, 0, 0}), tran(one(4, 2), []int{0, 3, 0, 0})), 0, 1, extra(0, 3, 0, 0), "of two that are as near the one by the lesser transition"},
		{made(4, step(4, 0, 2), tran([]int{0, 0, 2, 0}, one(4, 3)), step(4, 3, 1), tran(one(4, 0), []int{0, 2, 0, 0})), 0, 1, extra(0, 2, 0, 0), "ahead of a mark that is stuck, and a transition that is dead"},

		{made(2, tran([]int{2, 0}, []int{0, 1})), 0, 1, stuck(1, 0), "one token is too few"},
		{made(4, step(4, 0, 2), step(4, 0, 3), tran(one(4, 2, 3), one(4, 1))), 0, 1, stuck(1, 0, 0, 0), "the end is never reached: the beginning is stuck already"},
		{made(3, step(3, 0, 1), step(3, 0, 2), tran([]int{0, 0, 2}, one(3, 1))), 0, 1, stuck(0, 0, 1), "one way of two goes wrong"},
		{made(4, step(4, 0, 2), step(4, 2, 1), step(4, 2, 3), tran([]int{0, 0, 0, 2}, one(4, 1))), 0, 1, stuck(0, 0, 0, 1), "it goes wrong later"},
		{made(4, step(4, 0, 1), step(4, 0, 2), step(4, 2, 3), step(4, 3, 2), tran(one(4, 2, 3), one(4, 1))), 0, 1, stuck(0, 0, 1, 0), "something goes on for ever, but not to the end"},
		{made(5, step(5, 0, 1), step(5, 0, 3), step(5, 0, 2), step(5, 3, 4), step(5, 4, 3), tran([]int{0, 0, 2, 1, 1}, one(5, 1))), 0, 1, stuck(0, 0, 0, 1, 0), "what goes on for ever ahead of what has stopped"},
		{made(3, step(3, 0, 2), tran([]int{0, 0, 2}, []int{0, 2, 0})), 0, 1, stuck(1, 0, 0), "two at the end that never come there are not told"},
		{made(4, step(4, 0, 1), step(4, 0, 2), tran([]int{0, 0, 2, 0}, one(4, 3)), step(4, 3, 1)), 0, 1, stuck(0, 0, 1, 0), "ahead of a transition that is dead"},

		{made(2, tran([]int{2, 0}, one(2, 1)), step(2, 0, 1)), 0, 1, dead(0), "transition 0"},
		{made(2, step(2, 0, 1), tran([]int{2, 0}, one(2, 1))), 0, 1, dead(1), "the last transition"},
		{made(3, step(3, 0, 2), tran([]int{0, 0, 9}, one(3, 1)), step(3, 2, 1), tran(one(3, 0, 2), one(3, 1))), 0, 1, dead(1), "the least one of two"},
		{made(2, append(slices.Repeat([]api.Tran{step(2, 0, 1)}, 23), tran([]int{9, 0}, []int{0, 9}))...), 0, 1, dead(23), "the last one of as many as may be"},
	} {
		got, err := Judge(c.n, c.i, c.o, most)
		if err != api.OK || !same(got, c.want) {
			t.Errorf("%s: %v, %v, not %v", c.what, got, err, c.want)
		}
	}
}

// Beside an error the verdict is zero; what is wrong with the shape is told ahead of what Graph tells.
func TestErrors(t *testing.T) {
	more := made(3, step(3, 0, 2), tran(one(3, 2), []int{0, 1, 2}))
	for _, c := range []struct {
		n          api.Net
		i, o, most int
		want       api.Errno
		what       string
	}{
		{api.Net{}, 0, 1, most, api.ErrForm, "nothing at all"},
		{made(2), 0, 1, most, api.ErrForm, "no way"},
		{row(2), 1, 0, most, api.ErrForm, "the wrong way round"},
		{row(2), 0, 0, most, api.ErrForm, "both are one"},
		{row(2), -1, 1, most, api.ErrForm, "the beginning is no place"},
		{row(2), 0, 2, most, api.ErrForm, "the end is no place"},
		{row(2), math.MinInt, math.MaxInt, most, api.ErrForm, "neither is a place"},
		{made(2, step(2, 0, 1), tran(one(2), one(2, 1))), 0, 1, most, api.ErrForm, "something comes of nothing"},
		{row(2), 1, 0, 0, api.ErrForm, "the wrong way round, and too few marks"},
		{made(-1), 0, 1, most, api.ErrRange, "fewer places than none"},
		{made(17), 0, 1, most, api.ErrRange, "too many places"},
		{made(math.MaxInt), 0, 1, most, api.ErrRange, "far too many places"},
		{made(2, slices.Repeat([]api.Tran{step(2, 0, 1)}, 25)...), 0, 1, most, api.ErrRange, "too many transitions"},
		{made(2, api.Tran{Label: 27, Pre: one(2, 0), Post: one(2, 1)}), 0, 1, most, api.ErrRange, "a label that is none"},
		{made(2, tran([]int{10, 0}, one(2, 1))), 0, 1, most, api.ErrRange, "too great a weight"},
		{made(2, tran(one(2, 0), []int{0, -1})), 0, 1, most, api.ErrRange, "a weight below 0"},
		{made(2, api.Tran{}), 0, 1, most, api.ErrRange, "a transition without places"},
		{made(2, step(2, 0, 1), tran(one(1, 0), one(2, 1))), 0, 0, most, api.ErrRange, "a wrong net whose ends are one"},
		{row(2), 0, 1, 0, api.ErrRange, "no marks"},
		{row(2), 0, 1, -1, api.ErrRange, "fewer marks than none"},
		{row(2), 0, 1, most + 1, api.ErrRange, "one mark more than may be"},
		{row(2), 0, 1, math.MaxInt, api.ErrRange, "far more marks than may be"},
		{row(2), 0, 1, math.MinInt, api.ErrRange, "far fewer marks than none"},
		{more, 0, 1, most, api.ErrFull, "marks without end, though there is something beside the end"},
		{more, 0, 1, 0, api.ErrRange, "marks without end, and none is allowed"},
		{wide(6), 0, 12, most, api.ErrFull, "one mark too many"},
		{made(2, tran([]int{1, 0}, []int{0, 2})), 0, 1, 1, api.ErrFull, "too few marks to tell what is extra"},
	} {
		got, err := Judge(c.n, c.i, c.o, c.most)
		if err != c.want || !same(got, api.Verdict{}) {
			t.Errorf("%s: %v, %v, not %v", c.what, got, err, c.want)
		}
	}
}

// As many marks as there are suffice, and one fewer does not.
func TestMost(t *testing.T) {
	for _, c := range []struct {
		n     api.Net
		o     int
		marks int
	}{{row(2), 1, 2}, {row(9), 8, 9}, {wide(1), 7, 296}, {wide(5), 11, 300}, {made(2, tran([]int{2, 0}, one(2, 1))), 1, 1}} {
		want, err := Judge(c.n, 0, c.o, most)
		if err != api.OK {
			t.Fatalf("%d marks: %v", c.marks, err)
		}
		if got, err := Judge(c.n, 0, c.o, c.marks); err != api.OK || !same(got, want) {
			t.Errorf("%d marks: %v, %v, not %v", c.marks, got, err, want)
		}
		tooFew := api.ErrFull
		if c.marks == 1 {
			tooFew = api.ErrRange
		}
		if _, err := Judge(c.n, 0, c.o, c.marks-1); err != tooFew {
			t.Errorf("one mark fewer than %d: %v", c.marks, err)
		}
	}
}

// told is the promise's words: a run is asked for from each mark anew.
func told(n api.Net, i, o, most int) (api.Verdict, api.Errno) {
	if err := shape.Wrong(n, i, o); err != api.OK {
		return api.Verdict{}, err
	}
	s, err := reach.Graph(n, shape.Start(n, i), most)
	if err != api.OK {
		return api.Verdict{}, err
	}
	end := one(n.Places, o)
	for _, m := range s.Marks {
		if m[o] > 0 && !slices.Equal(m, end) {
			return extra(m...), api.OK
		}
	}
	for _, m := range s.Marks {
		if _, err := reach.Path(n, m, end, api.MaxStates); err != api.OK {
			return stuck(m...), api.OK
		}
	}
	for t := range n.Trans {
		fires := func(m []int) bool {
			_, err := net.Fire(n, m, t)
			return err == api.OK
		}
		if !slices.ContainsFunc(s.Marks, fires) {
			return dead(t), api.OK
		}
	}
	return good(), api.OK
}

// agrees holds one net against the promise's words, and against its closed net: it is sound, if, and only if, that one has a bound, and all its transitions are live. It answers the kind, and below 0 an error.
func agrees(t *testing.T, n api.Net, i, o, most int) int {
	t.Helper()
	want, wantErr := told(n, i, o, most)
	got, err := Judge(n, i, o, most)
	if err != wantErr || !same(got, want) {
		t.Fatalf("%v from %d to %d, %d marks at most: %v, %v, not %v, %v", n, i, o, most, got, err, want, wantErr)
	}
	if err != api.OK {
		return -int(err)
	}
	closed, err := shape.Close(n, i, o)
	if err != api.OK {
		t.Fatalf("%v from %d to %d has a verdict, but closed: %v", n, i, o, err)
	}
	s, err := reach.Graph(closed, shape.Start(n, i), most)
	lives := err == api.OK && len(live.Live(s, len(closed.Trans))) == len(closed.Trans)
	if lives != (got.Kind == api.Sound) {
		t.Fatalf("%v from %d to %d: %v, but closed: %v", n, i, o, got, lives)
	}
	return got.Kind
}

// All nets of three places and two transitions, each of which takes and puts one token or none.
func TestAllSmallNets(t *testing.T) {
	kinds := map[int]int{}
	for bits := range 1 << 12 {
		l := make([]int, 12)
		for b := range l {
			l[b] = bits >> b & 1
		}
		n := made(3, tran(l[:3], l[3:6]), tran(l[6:9], l[9:]))
		for i := -1; i <= 3; i++ {
			for o := -1; o <= 3; o++ {
				kinds[agrees(t, n, i, o, most)]++
			}
		}
	}
	for _, kind := range []int{api.Sound, api.Extra, api.Stuck, -int(api.ErrForm), -int(api.ErrFull)} {
		if kinds[kind] == 0 {
			t.Errorf("none is of kind %d: %v", kind, kinds)
		}
	}
}

// Greater nets, most of whose transitions go from one place to another, and some to or from several.
func TestGreaterNets(t *testing.T) {
	seed := uint32(5)
	next := func(below int) int {
		seed = seed*1664525 + 1013904223
		return int(seed>>8) % below
	}
	kinds := map[int]int{}
	for range 20000 {
		places := 2 + next(5)
		n := made(places)
		for range 1 + next(8) {
			// Nothing is put at place 0, and nothing taken from the last one.
			tr := step(places, next(places-1), 1+next(places-1))
			if next(4) == 0 {
				tr.Pre[next(places-1)] = next(3)
				tr.Post[1+next(places-1)] = next(3)
			}
			n.Trans = append(n.Trans, tr)
		}
		kinds[agrees(t, n, 0, places-1, []int{3, 12, most}[next(3)])]++
	}
	for _, kind := range []int{api.Sound, api.Extra, api.Stuck, api.DeadTran, -int(api.ErrForm), -int(api.ErrFull)} {
		if kinds[kind] < 100 {
			t.Errorf("too few are of kind %d: %v", kind, kinds)
		}
	}
}

// nil and empty lists are the same.
func TestNothing(t *testing.T) {
	for _, n := range []api.Net{{Places: 2}, {Places: 2, Trans: []api.Tran{}}, {Trans: []api.Tran{{}}}, {Trans: []api.Tran{{Pre: []int{}, Post: []int{}}}}} {
		if got, err := Judge(n, 0, 1, most); err != api.ErrForm || !same(got, api.Verdict{}) {
			t.Errorf("%v: %v, %v", n, got, err)
		}
	}
}

// Behind the end of a list there may be spare room: it is neither looked at nor changed.
func TestSpareRoom(t *testing.T) {
	spare := func(l ...int) []int { return append(l, 77)[:len(l)] }
	all := func() []api.Tran {
		return []api.Tran{{Label: 3, Pre: spare(1, 0), Post: spare(0, 2)}, {Label: 99, Pre: []int{5}}}
	}
	trans := all()
	got, err := Judge(api.Net{Places: 2, Trans: trans[:1]}, 0, 1, most)
	if err != api.OK || !same(got, extra(0, 2)) {
		t.Errorf("%v, %v", got, err)
	}
	if !reflect.DeepEqual(trans, all()) || trans[0].Pre[:3][2] != 77 || trans[0].Post[:3][2] != 77 {
		t.Errorf("what was handed in was changed: %v", trans)
	}
}

// A verdict shares nothing with what was handed in, nor with another verdict.
func TestAnswersAreNew(t *testing.T) {
	for _, c := range []struct {
		n    api.Net
		want api.Verdict
	}{
		{made(2, tran([]int{1, 0}, []int{0, 2})), extra(0, 2)},
		{made(2, tran([]int{2, 0}, []int{0, 1})), stuck(1, 0)},
		{made(3, step(3, 0, 1), step(3, 0, 2), tran([]int{0, 0, 2}, one(3, 1))), stuck(0, 0, 1)},
	} {
		first, _ := Judge(c.n, 0, 1, most)
		for p := range first.At {
			first.At[p] = 55
		}
		again, err := Judge(c.n, 0, 1, most)
		if err != api.OK || !same(again, c.want) {
			t.Errorf("an answer was changed, and then comes %v, %v, not %v", again, err, c.want)
		}
		for _, tr := range c.n.Trans {
			for p := range c.n.Places {
				tr.Pre[p], tr.Post[p] = 9, 9
			}
		}
		if !same(again, c.want) {
			t.Errorf("the net was changed, and its verdict became %v", again)
		}
	}
}

func ExampleJudge() {
	once := api.Net{Places: 2, Trans: []api.Tran{{Label: 1, Pre: []int{1, 0}, Post: []int{0, 1}}}}
	v, err := Judge(once, 0, 1, 10)
	fmt.Println(v.Kind == api.Sound, err == api.OK)
	twice := api.Net{Places: 2, Trans: []api.Tran{{Label: 1, Pre: []int{1, 0}, Post: []int{0, 2}}}}
	v, err = Judge(twice, 0, 1, 10)
	fmt.Println(v.Kind == api.Extra, v.At, err == api.OK)
	// Output:
	// true true
	// true [0 2] true
}
