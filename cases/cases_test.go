package cases

import (
	"fmt"
	"math"
	"reflect"
	"slices"
	"testing"

	"tokenhall/api"
	"tokenhall/grow"
	"tokenhall/net"
	"tokenhall/sound"
	"tokenhall/tongue"
)

const most = api.MaxTokens

// made is a net of so many places and these transitions.
func made(places int, trans ...api.Tran) api.Net {
	return api.Net{Places: places, Trans: trans}
}

// one has one token at each of these places of so many.
func one(places int, these ...int) []int {
	l := make([]int, places)
	for _, p := range these {
		l[p]++
	}
	return l
}

// row is label 1 from place 0 to place 1, what nobody sees from there to place 2, and label 2 from there to place 3.
func row() api.Net {
	return made(4,
		api.Tran{Label: 1, Pre: one(4, 0), Post: one(4, 1)},
		api.Tran{Pre: one(4, 1), Post: one(4, 2)},
		api.Tran{Label: 2, Pre: one(4, 2), Post: one(4, 3)})
}

// heavy takes two and puts three: label 5, and, as transition 1, what nobody sees.
func heavy() api.Net {
	return made(2,
		api.Tran{Label: 5, Pre: []int{2, 0}, Post: []int{0, 3}},
		api.Tran{Pre: []int{2, 0}, Post: []int{0, 3}})
}

// largest is at every limit of a net at once.
func largest() api.Net {
	n := api.Net{Places: api.MaxPlaces}
	for range api.MaxTrans {
		l := slices.Repeat([]int{api.MaxWeight}, api.MaxPlaces)
		n.Trans = append(n.Trans, api.Tran{Label: api.MaxLabel, Pre: l, Post: slices.Clone(l)})
	}
	return n
}

// changed is row with one thing that is different.
func changed(change func(n *api.Net)) api.Net {
	n := row()
	change(&n)
	return n
}

// wrong are nets that are wrong, each for one thing alone.
func wrong() map[string]api.Net {
	return map[string]api.Net{
		"-1 places":               {Places: -1},
		"the fewest places":       {Places: math.MinInt},
		"one place too many":      {Places: api.MaxPlaces + 1},
		"the most places":         {Places: math.MaxInt},
		"too many transitions":    {Trans: make([]api.Tran, api.MaxTrans+1)},
		"one transition too many": changed(func(n *api.Net) { *n = largest(); n.Trans = append(n.Trans, n.Trans[0]) }),
		"label -1":                changed(func(n *api.Net) { n.Trans[0].Label = -1 }),
		"label too large":         changed(func(n *api.Net) { n.Trans[2].Label = api.MaxLabel + 1 }),
		"Pre of nothing":          changed(func(n *api.Net) { n.Trans[2].Pre = nil }),
		"Post of nothing":         changed(func(n *api.Net) { n.Trans[0].Post = nil }),
		"Pre too long":            changed(func(n *api.Net) { n.Trans[0].Pre = one(5, 0) }),
		"Post too short":          changed(func(n *api.Net) { n.Trans[0].Post = one(3, 1) }),
		"weight -1":               changed(func(n *api.Net) { n.Trans[1].Pre[3] = -1 }),
		"weight 10":               changed(func(n *api.Net) { n.Trans[1].Post[3] = api.MaxWeight + 1 }),
	}
}

// sameCase and sameNet hold nil and empty lists to be the same.
func sameCase(a, b api.Case) bool {
	return slices.Equal(a.Mark, b.Mark) && slices.Equal(a.Busy, b.Busy)
}

func sameNet(a, b api.Net) bool {
	return a.Places == b.Places && slices.EqualFunc(a.Trans, b.Trans, func(s, t api.Tran) bool {
		return s.Label == t.Label && slices.Equal(s.Pre, t.Pre) && slices.Equal(s.Post, t.Post)
	})
}

func copied(c api.Case) api.Case {
	return api.Case{Mark: slices.Clone(c.Mark), Busy: slices.Clone(c.Busy)}
}

func TestBegin(t *testing.T) {
	for _, c := range []struct {
		n    api.Net
		i    int
		want api.Case
		err  api.Errno
		what string
	}{
		{row(), 0, api.Case{Mark: one(4, 0), Busy: one(3)}, api.OK, "the first place"},
		{row(), 2, api.Case{Mark: one(4, 2), Busy: one(3)}, api.OK, "a place between"},
		{row(), 3, api.Case{Mark: one(4, 3), Busy: one(3)}, api.OK, "the last place"},
		{row(), 4, api.Case{}, api.ErrNone, "a place too far"},
		{row(), -1, api.Case{}, api.ErrNone, "place -1"},
		{row(), math.MaxInt, api.Case{}, api.ErrNone, "the greatest number"},
		{row(), math.MinInt, api.Case{}, api.ErrNone, "the least number"},
		{made(1), 0, api.Case{Mark: []int{1}}, api.OK, "no transitions"},
		{made(1), 1, api.Case{}, api.ErrNone, "no transitions, and no place"},
		{made(0), 0, api.Case{}, api.ErrNone, "no places"},
		{made(0, api.Tran{}), 0, api.Case{}, api.ErrNone, "no places, and one transition"},
		{largest(), 15, api.Case{Mark: one(16, 15), Busy: one(24)}, api.OK, "the last place of as many as may be"},
		{largest(), 16, api.Case{}, api.ErrNone, "a place behind as many as may be"},
	} {
		if got, err := Begin(c.n, c.i); !sameCase(got, c.want) || err != c.err {
			t.Errorf("%s: %v, %d, not %v, %d", c.what, got, err, c.want, c.err)
		}
	}
}

func TestRight(t *testing.T) {
	for _, c := range []struct {
		n          api.Net
		mark, busy []int
		want       bool
		what       string
	}{
		{heavy(), []int{0, 0}, []int{0, 0}, true, "nothing anywhere"},
		{heavy(), []int{most, most}, []int{most, most}, true, "all that may be"},
		{heavy(), []int{0, 1}, []int{7, 0}, true, "whether or not it is ever come to"},
		{heavy(), []int{0, 1}, []int{0, 7}, true, "what nobody sees may be told to go on"},
		{heavy(), nil, nil, false, "nothing at all"},
		{heavy(), nil, []int{0, 0}, false, "no mark"},
		{heavy(), []int{0, 0}, nil, false, "no Busy"},
		{heavy(), []int{0}, []int{0, 0}, false, "a place too few"},
		{heavy(), []int{0, 0, 0}, []int{0, 0}, false, "a place too many"},
		{heavy(), []int{0, 0}, []int{0}, false, "a transition too few"},
		{heavy(), []int{0, 0}, []int{0, 0, 0}, false, "a transition too many"},
		{heavy(), []int{-1, 0}, []int{0, 0}, false, "-1 at the first place"},
		{heavy(), []int{0, -1}, []int{0, 0}, false, "-1 at the last place"},
		{heavy(), []int{0, most + 1}, []int{0, 0}, false, "too many at a place"},
		{heavy(), []int{math.MinInt, 0}, []int{0, 0}, false, "the least number at a place"},
		{heavy(), []int{math.MaxInt, 0}, []int{0, 0}, false, "the greatest number at a place"},
		{heavy(), []int{0, 0}, []int{-1, 0}, false, "goes on -1 times"},
		{heavy(), []int{0, 0}, []int{0, -1}, false, "the last one goes on -1 times"},
		{heavy(), []int{0, 0}, []int{most + 1, 0}, false, "goes on too often"},
		{heavy(), []int{0, 0}, []int{0, math.MaxInt}, false, "the last one goes on too often"},
		{heavy(), []int{0, 0}, []int{math.MinInt, 0}, false, "the least number in Busy"},
		{made(0), nil, nil, true, "an empty net"},
		{made(0), []int{}, []int{}, true, "an empty net, and empty lists"},
		{made(0), []int{0}, nil, false, "a place of an empty net"},
		{made(0), nil, []int{0}, false, "a transition of an empty net"},
		{made(3), []int{1, 2, 3}, nil, true, "no transitions"},
		{largest(), one(16), one(24), true, "the largest net"},
		{largest(), one(24), one(16), false, "the largest net, the lists exchanged"},
	} {
		if got := Right(c.n, api.Case{Mark: c.mark, Busy: c.busy}); got != c.want {
			t.Errorf("%s: %v", c.what, got)
		}
	}
}

func TestDo(t *testing.T) {
	full := slices.Repeat([]int{most}, 2)
	for _, c := range []struct {
		mark, busy []int
		kind, tran int
		wantMark   []int
		wantBusy   []int
		err        api.Errno
		what       string
	}{
		{[]int{2, 1}, []int{0, 4}, api.CaseBegin, 0, []int{0, 1}, []int{1, 4}, api.OK, "begun: Pre is taken, nothing is put"},
		{[]int{5, 1}, []int{3, 0}, api.CaseBegin, 0, []int{3, 1}, []int{4, 0}, api.OK, "begun once more"},
		{[]int{1, most}, []int{3, 0}, api.CaseBegin, 0, nil, nil, api.ErrNone, "too few to begin"},
		{[]int{2, most}, []int{0, 0}, api.CaseBegin, 0, []int{0, most}, []int{1, 0}, api.OK, "begun, where the end will have no room"},
		{[]int{2, 0}, []int{most - 1, 0}, api.CaseBegin, 0, []int{0, 0}, []int{most, 0}, api.OK, "goes on as often as may be"},
		{[]int{2, 0}, []int{most, 0}, api.CaseBegin, 0, nil, nil, api.ErrFull, "goes on too often"},
		{[]int{1, 0}, []int{most, 0}, api.CaseBegin, 0, nil, nil, api.ErrNone, "too few, and too often: what lacks is told"},
		{full, []int{0, most}, api.CaseBegin, 0, []int{most - 2, most}, []int{1, most}, api.OK, "how often others go on means nothing"},

		{[]int{0, 1}, []int{1, 4}, api.CaseEnd, 0, []int{0, 4}, []int{0, 4}, api.OK, "ended: Post is put, nothing is taken"},
		{[]int{7, 0}, []int{3, 0}, api.CaseEnd, 0, []int{7, 3}, []int{2, 0}, api.OK, "one of three is ended"},
		{[]int{7, 0}, []int{0, 5}, api.CaseEnd, 0, nil, nil, api.ErrNone, "what does not go on can't end"},
		{[]int{0, most - 3}, []int{1, 0}, api.CaseEnd, 0, []int{0, most}, []int{0, 0}, api.OK, "just room for the end"},
		{[]int{0, most - 2}, []int{1, 0}, api.CaseEnd, 0, nil, nil, api.ErrFull, "no room for the end"},
		{[]int{0, most}, []int{0, 0}, api.CaseEnd, 0, nil, nil, api.ErrNone, "does not go on, and has no room: what lacks is told"},
		{[]int{most, 0}, []int{most, 0}, api.CaseEnd, 0, []int{most, 3}, []int{most - 1, 0}, api.OK, "a full place where nothing is put"},

		{[]int{0, 1}, []int{1, 4}, api.CaseUndo, 0, []int{2, 1}, []int{0, 4}, api.OK, "undone: Pre is there again"},
		{[]int{5, 0}, []int{3, 0}, api.CaseUndo, 0, []int{7, 0}, []int{2, 0}, api.OK, "one of three is undone"},
		{[]int{5, 0}, []int{0, 5}, api.CaseUndo, 0, nil, nil, api.ErrNone, "what does not go on can't be undone"},
		{[]int{most - 2, 0}, []int{1, 0}, api.CaseUndo, 0, []int{most, 0}, []int{0, 0}, api.OK, "just room for what was taken"},
		{[]int{most - 1, 0}, []int{1, 0}, api.CaseUndo, 0, nil, nil, api.ErrFull, "no room for what was taken"},
		{[]int{most, 0}, []int{0, 0}, api.CaseUndo, 0, nil, nil, api.ErrNone, "does not go on, and has no room: what lacks is told, of undoing too"},
		{[]int{0, most}, []int{1, 0}, api.CaseUndo, 0, []int{2, most}, []int{0, 0}, api.OK, "a full place where nothing is given back"},

		{[]int{2, 1}, []int{7, 4}, api.CaseSkip, 1, []int{0, 4}, []int{7, 4}, api.OK, "fired: Pre is taken, Post is put, nothing goes on"},
		{[]int{1, 1}, []int{7, 4}, api.CaseSkip, 1, nil, nil, api.ErrNone, "too few to fire"},
		{[]int{2, most - 3}, []int{0, 0}, api.CaseSkip, 1, []int{0, most}, []int{0, 0}, api.OK, "just room to fire"},
		{[]int{2, most - 2}, []int{0, 0}, api.CaseSkip, 1, nil, nil, api.ErrFull, "no room to fire"},
		{[]int{1, most}, []int{0, 0}, api.CaseSkip, 1, nil, nil, api.ErrNone, "too few, and no room: what lacks is told"},
		{[]int{2, 0}, []int{0, most}, api.CaseSkip, 1, []int{0, 3}, []int{0, most}, api.OK, "whatever is told to go on"},

		{full, full, api.CaseSkip, 0, nil, nil, api.ErrForm, "what is seen is not skipped"},
		{full, full, api.CaseBegin, 1, nil, nil, api.ErrForm, "what nobody sees does not begin"},
		{full, full, api.CaseEnd, 1, nil, nil, api.ErrForm, "what nobody sees does not end"},
		{full, full, api.CaseUndo, 1, nil, nil, api.ErrForm, "what nobody sees is not undone"},
		{one(2), one(2), api.CaseSkip, 0, nil, nil, api.ErrForm, "ErrForm goes ahead of what lacks: skip"},
		{one(2), one(2), api.CaseBegin, 1, nil, nil, api.ErrForm, "ErrForm goes ahead of what lacks: begin"},
		{one(2), one(2), api.CaseEnd, 1, nil, nil, api.ErrForm, "ErrForm goes ahead of what lacks: end"},
		{one(2), one(2), api.CaseUndo, 1, nil, nil, api.ErrForm, "ErrForm goes ahead of what lacks: undo"},
	} {
		in, want := api.Case{Mark: c.mark, Busy: c.busy}, api.Case{Mark: c.wantMark, Busy: c.wantBusy}
		if got, err := Do(heavy(), in, api.CaseOp{Kind: c.kind, Tran: c.tran}); !sameCase(got, want) || err != c.err {
			t.Errorf("%s: %v, %d, not %v, %d", c.what, got, err, want, c.err)
		}
	}
}

// What takes and puts at one place needs no room of its own where it fires, but at the end of work that goes on it does.
func TestTakesAndPuts(t *testing.T) {
	n := made(1, api.Tran{Pre: []int{9}, Post: []int{9}}, api.Tran{Label: 1, Pre: []int{9}, Post: []int{9}})
	in := api.Case{Mark: []int{most}, Busy: []int{0, 1}}
	if got, err := Do(n, in, api.CaseOp{Kind: api.CaseSkip, Tran: 0}); !sameCase(got, in) || err != api.OK {
		t.Errorf("fired: %v, %d", got, err)
	}
	for _, kind := range []int{api.CaseEnd, api.CaseUndo} {
		if got, err := Do(n, in, api.CaseOp{Kind: kind, Tran: 1}); !sameCase(got, api.Case{}) || err != api.ErrFull {
			t.Errorf("kind %d: %v, %d", kind, got, err)
		}
	}
}

func TestErrorsInTheirOrder(t *testing.T) {
	right, spoilt := api.Case{Mark: one(2), Busy: one(2)}, api.Case{Mark: one(2), Busy: one(3)}
	kinds := []int{-1, 0, 5, 6, math.MinInt, math.MaxInt}
	trans := []int{-1, 2, 3, math.MinInt, math.MaxInt}
	for kind := api.CaseSkip; kind <= api.CaseUndo; kind++ {
		for _, tran := range trans {
			checkErr(t, heavy(), right, kind, tran, api.ErrNone)
			checkErr(t, heavy(), spoilt, kind, tran, api.ErrRange)
		}
		checkErr(t, heavy(), spoilt, kind, 0, api.ErrRange)
		checkErr(t, made(0), api.Case{}, kind, 0, api.ErrNone)
	}
	for _, kind := range kinds {
		for _, tran := range append(trans, 0, 1) {
			checkErr(t, heavy(), right, kind, tran, api.ErrKind)
			checkErr(t, heavy(), spoilt, kind, tran, api.ErrRange)
		}
		checkErr(t, made(0), api.Case{}, kind, 0, api.ErrKind)
	}
}

func checkErr(t *testing.T, n api.Net, c api.Case, kind, tran int, want api.Errno) {
	t.Helper()
	if got, err := Do(n, c, api.CaseOp{Kind: kind, Tran: tran}); !sameCase(got, api.Case{}) || err != want {
		t.Errorf("%v, kind %d, transition %d: %v, %d, not %d", c, kind, tran, got, err, want)
	}
}

// What is wrong with the net is told first, by every call, whatever else is wrong.
func TestWrongNets(t *testing.T) {
	for what, n := range wrong() {
		for _, i := range []int{0, 1, 3, -1, 4, 17, math.MinInt, math.MaxInt} {
			if got, err := Begin(n, i); !sameCase(got, api.Case{}) || err != api.ErrRange {
				t.Errorf("%s, Begin at %d: %v, %d", what, i, got, err)
			}
			for _, ops := range [][]api.CaseOp{nil, {{Kind: api.CaseBegin}, {Kind: 9, Tran: 9}}} {
				if got, errs, err := Play(n, i, ops); !sameCase(got, api.Case{}) || len(errs) > 0 || err != api.ErrRange {
					t.Errorf("%s, Play at %d: %v, %v, %d", what, i, got, errs, err)
				}
			}
		}
		if got, err := Busy(n); !sameNet(got, api.Net{}) || err != api.ErrRange {
			t.Errorf("%s, Busy: %v, %d", what, got, err)
		}
		for _, c := range []api.Case{{}, {Mark: one(4, 0), Busy: one(3)}, {Mark: one(16), Busy: one(24)}, {Busy: one(25)}, {Mark: one(16), Busy: one(25)}} {
			if Right(n, c) {
				t.Errorf("%s: %v is right", what, c)
			}
			for kind := range 6 {
				checkErr(t, n, c, kind, 0, api.ErrRange)
			}
		}
	}
}

func TestPlay(t *testing.T) {
	op := func(kind, tran int) api.CaseOp { return api.CaseOp{Kind: kind, Tran: tran} }
	for _, c := range []struct {
		i    int
		ops  []api.CaseOp
		want api.Case
		errs []api.Errno
		err  api.Errno
		what string
	}{
		{0, nil, api.Case{Mark: one(4, 0), Busy: one(3)}, nil, api.OK, "nothing is done"},
		{2, []api.CaseOp{}, api.Case{Mark: one(4, 2), Busy: one(3)}, nil, api.OK, "nothing is done elsewhere"},
		{0, []api.CaseOp{op(2, 0)}, api.Case{Mark: one(4), Busy: one(3, 0)}, []api.Errno{0}, api.OK, "begun"},
		{0, []api.CaseOp{op(2, 0), op(4, 0)}, api.Case{Mark: one(4, 0), Busy: one(3)}, []api.Errno{0, 0}, api.OK,
			"the document's sixteenth example: as if it had not been"},
		{0, []api.CaseOp{op(2, 0), op(3, 0), op(1, 1), op(2, 2), op(3, 2)}, api.Case{Mark: one(4, 3), Busy: one(3)},
			[]api.Errno{0, 0, 0, 0, 0}, api.OK, "from the first place to the last one"},
		{0, []api.CaseOp{op(3, 0), op(2, 0), op(2, 0), op(1, 0), op(2, 1), op(0, 0), op(7, 3), op(2, 3), op(2, -1), op(3, 0), op(4, 0), op(1, 1)},
			api.Case{Mark: one(4, 2), Busy: one(3)},
			[]api.Errno{3, 0, 3, 1, 1, 5, 5, 3, 3, 0, 3, 0}, api.OK, "what has an error changes nothing, and the others go on"},
		{2, []api.CaseOp{op(2, 0), op(1, 1), op(2, 2)}, api.Case{Mark: one(4), Busy: one(3, 2)}, []api.Errno{3, 3, 0}, api.OK, "begun in the middle"},
		{4, []api.CaseOp{op(2, 0)}, api.Case{}, nil, api.ErrNone, "no place"},
		{-1, []api.CaseOp{op(0, 0)}, api.Case{}, nil, api.ErrNone, "no place, and no kind"},
	} {
		got, errs, err := Play(row(), c.i, c.ops)
		if !sameCase(got, c.want) || !slices.Equal(errs, c.errs) || err != c.err {
			t.Errorf("%s: %v, %v, %d, not %v, %v, %d", c.what, got, errs, err, c.want, c.errs, c.err)
		}
	}
}

// A case can be played to the limits of its numbers, and not beyond.
func TestPlayToTheLimits(t *testing.T) {
	free := made(1, api.Tran{Label: 1, Pre: []int{0}, Post: []int{9}})
	ops := slices.Repeat([]api.CaseOp{{Kind: api.CaseBegin}}, most+2)
	got, errs, err := Play(free, 0, ops)
	if !sameCase(got, api.Case{Mark: []int{1}, Busy: []int{most}}) || err != api.OK || len(errs) != most+2 {
		t.Fatalf("%v, %d answers, %d", got, len(errs), err)
	}
	for k, e := range errs {
		if want := [2]api.Errno{api.OK, api.ErrFull}[min(1, k/most)]; e != want {
			t.Fatalf("op %d: %d, not %d", k, e, want)
		}
	}
	ops = slices.Repeat([]api.CaseOp{{Kind: api.CaseBegin}, {Kind: api.CaseEnd}}, most/9+1)
	got, errs, err = Play(free, 0, ops)
	// One token, and nine by nine, are just full: the last end has no room.
	if !sameCase(got, api.Case{Mark: []int{1 + (most-1)/9*9}, Busy: []int{1}}) || err != api.OK {
		t.Fatalf("%v, %d", got, err)
	}
	if first := slices.Index(errs, api.ErrFull); first != (most-1)/9*2+1 || first != len(ops)-1 {
		t.Errorf("the first one without room is %d of %d", first, len(ops))
	}
}

// told is the promises' words of a net that is right, number by number.
func told(n api.Net, c api.Case, o api.CaseOp) (api.Case, api.Errno) {
	if !toldRight(n, c) {
		return api.Case{}, api.ErrRange
	}
	if !slices.Contains([]int{1, 2, 3, 4}, o.Kind) {
		return api.Case{}, api.ErrKind
	}
	if o.Tran < 0 || o.Tran >= len(n.Trans) {
		return api.Case{}, api.ErrNone
	}
	tran := n.Trans[o.Tran]
	if tran.Label == 0 && o.Kind != api.CaseSkip || tran.Label != 0 && o.Kind == api.CaseSkip {
		return api.Case{}, api.ErrForm
	}
	out := copied(c)
	for p := range out.Mark {
		switch o.Kind {
		case api.CaseSkip, api.CaseBegin:
			if out.Mark[p] -= tran.Pre[p]; out.Mark[p] < 0 {
				return api.Case{}, api.ErrNone
			}
		}
	}
	if o.Kind > api.CaseBegin && c.Busy[o.Tran] == 0 {
		return api.Case{}, api.ErrNone
	}
	out.Busy[o.Tran] += [5]int{0, 0, 1, -1, -1}[o.Kind]
	for p := range out.Mark {
		switch o.Kind {
		case api.CaseSkip, api.CaseEnd:
			out.Mark[p] += tran.Post[p]
		case api.CaseUndo:
			out.Mark[p] += tran.Pre[p]
		}
	}
	if !toldRight(n, out) {
		return api.Case{}, api.ErrFull
	}
	return out, api.OK
}

func toldRight(n api.Net, c api.Case) bool {
	if len(c.Mark) != n.Places || len(c.Busy) != len(n.Trans) {
		return false
	}
	for _, x := range append(slices.Clone(c.Mark), c.Busy...) {
		if x < 0 || x > most {
			return false
		}
	}
	return true
}

// All nets of two places and one transition with weights up to 2, with numbers in and about their limits.
func TestAllSmallNets(t *testing.T) {
	tokens := []int{-1, 0, 1, 2, most - 1, most, most + 1}
	came := map[api.Errno]int{}
	for w := range 81 * 2 {
		n := made(2, api.Tran{Label: w % 2 * 26, Pre: []int{w / 2 % 3, w / 6 % 3}, Post: []int{w / 18 % 3, w / 54}})
		for k := range 7 * 7 * 7 {
			c := api.Case{Mark: []int{tokens[k%7], tokens[k/7%7]}, Busy: []int{tokens[k/49]}}
			if got, want := Right(n, c), toldRight(n, c); got != want {
				t.Fatalf("%v: %v is right: %v", n, c, got)
			}
			for kind := range 6 {
				for tran := -1; tran <= 1; tran++ {
					came[agrees(t, n, c, api.CaseOp{Kind: kind, Tran: tran})]++
				}
			}
		}
	}
	for _, e := range []api.Errno{api.OK, api.ErrForm, api.ErrRange, api.ErrNone, api.ErrFull, api.ErrKind} {
		if came[e] < 1000 {
			t.Errorf("%d came %d times: too few to tell", e, came[e])
		}
	}
}

// agrees holds one Do against the promises' words, and answers what came of it.
func agrees(t *testing.T, n api.Net, c api.Case, o api.CaseOp) api.Errno {
	t.Helper()
	got, err := Do(n, c, o)
	if want, wantErr := told(n, c, o); !sameCase(got, want) || err != wantErr {
		t.Fatalf("%v, %v, %v: %v, %d, not %v, %d", n, c, o, got, err, want, wantErr)
	}
	return err
}

// many makes nets of one to five places and up to six transitions, about half of which nobody sees.
func many(count int, each func(n api.Net, next func(below int) int)) {
	seed := uint32(16)
	next := func(below int) int {
		seed = seed*1664525 + 1013904223
		return int(seed>>8) % below
	}
	weights := func(places int) []int {
		l := make([]int, places)
		for range next(4) {
			l[next(places)] = next(3)
		}
		return l
	}
	for range count {
		n := made(1 + next(5))
		for range next(7) {
			n.Trans = append(n.Trans, api.Tran{Label: next(2) * (1 + next(26)), Pre: weights(n.Places), Post: weights(n.Places)})
		}
		each(n, next)
	}
}

// someOps are mostly such as can be done now and then.
func someOps(n api.Net, next func(below int) int, count int) []api.CaseOp {
	var ops []api.CaseOp
	for range count {
		o := api.CaseOp{Kind: next(6), Tran: next(len(n.Trans)+2) - 1}
		if next(4) > 0 && 0 <= o.Tran && o.Tran < len(n.Trans) {
			o.Kind = api.CaseSkip
			if n.Trans[o.Tran].Label != 0 {
				o.Kind = api.CaseBegin + next(3)
			}
		}
		ops = append(ops, o)
	}
	return ops
}

// Greater nets: Play is Do of one behind the other, and Do is what the promises' words say.
func TestManyNets(t *testing.T) {
	came := map[api.Errno]int{}
	many(3000, func(n api.Net, next func(below int) int) {
		i := next(n.Places)
		ops := someOps(n, next, 60)
		c, err := Begin(n, i)
		if want := (api.Case{Mark: one(n.Places, i), Busy: one(len(n.Trans))}); !sameCase(c, want) || err != api.OK {
			t.Fatalf("%v at %d: %v, %d", n, i, c, err)
		}
		var errs []api.Errno
		for _, o := range ops {
			e := agrees(t, n, c, o)
			if e == api.OK {
				c, _ = Do(n, c, o)
			}
			came[e]++
			errs = append(errs, e)
			if !Right(n, c) {
				t.Fatalf("%v: %v is not right behind %v", n, c, o)
			}
		}
		got, gotErrs, err := Play(n, i, ops)
		if !sameCase(got, c) || !slices.Equal(gotErrs, errs) || err != api.OK {
			t.Fatalf("%v at %d, %v: %v, %v, %d, not %v, %v", n, i, ops, got, gotErrs, err, c, errs)
		}
	})
	for _, e := range []api.Errno{api.OK, api.ErrForm, api.ErrNone, api.ErrKind} {
		if came[e] < 5000 {
			t.Errorf("%d came %d times: too few to tell", e, came[e])
		}
	}
}

// Begun, and given back: as if it had not been. Begun, and ended: as if it had fired.
func TestBegunAndGivenBack(t *testing.T) {
	began := 0
	many(2000, func(n api.Net, next func(below int) int) {
		c, _, _ := Play(n, next(n.Places), someOps(n, next, 30))
		for tran := range n.Trans {
			begun, err := Do(n, c, api.CaseOp{Kind: api.CaseBegin, Tran: tran})
			if err != api.OK {
				continue
			}
			began++
			if back, err := Do(n, begun, api.CaseOp{Kind: api.CaseUndo, Tran: tran}); !sameCase(back, c) || err != api.OK {
				t.Fatalf("%v, %v: %v, %d", n, c, back, err)
			}
			m, fireErr := net.Fire(n, c.Mark, tran)
			ended, err := Do(n, begun, api.CaseOp{Kind: api.CaseEnd, Tran: tran})
			if !sameCase(ended, api.Case{Mark: m, Busy: c.Busy}) || err != fireErr {
				t.Fatalf("%v, %v: %v, %d, not %v, %d", n, c, ended, err, m, fireErr)
			}
		}
	})
	if began < 1000 {
		t.Errorf("%d began: too few to tell", began)
	}
}

func TestBusy(t *testing.T) {
	silent := func(n api.Net) api.Net {
		for k := range n.Trans {
			n.Trans[k].Label = 0
		}
		return n
	}
	for _, c := range []struct {
		n, want api.Net
		what    string
	}{
		{made(0), made(0), "nothing"},
		{made(5), made(5), "no transitions"},
		{made(0, api.Tran{}), made(0, api.Tran{}), "what nobody sees, without places"},
		{made(0, api.Tran{Label: 7}), made(1, api.Tran{Post: []int{1}, Pre: []int{0}}, api.Tran{Label: 7, Pre: []int{1}, Post: []int{0}}), "what is seen, without places"},
		{silent(row()), silent(row()), "nothing that takes its time"},
		{silent(largest()), silent(largest()), "as much as may be, and nothing of it takes its time"},
		{row(), made(6,
			api.Tran{Pre: one(6, 0), Post: one(6, 4)},
			api.Tran{Label: 1, Pre: one(6, 4), Post: one(6, 1)},
			api.Tran{Pre: one(6, 1), Post: one(6, 2)},
			api.Tran{Pre: one(6, 2), Post: one(6, 5)},
			api.Tran{Label: 2, Pre: one(6, 5), Post: one(6, 3)}), "a row"},
		{heavy(), made(3,
			api.Tran{Pre: []int{2, 0, 0}, Post: []int{0, 0, 1}},
			api.Tran{Label: 5, Pre: []int{0, 0, 1}, Post: []int{0, 3, 0}},
			api.Tran{Pre: []int{2, 0, 0}, Post: []int{0, 3, 0}}), "weights stay, and one token goes on"},
		{made(1, api.Tran{Label: 3, Pre: []int{9}, Post: []int{9}}, api.Tran{Label: 3, Pre: []int{9}, Post: []int{9}}), made(3,
			api.Tran{Pre: []int{9, 0, 0}, Post: []int{0, 1, 0}},
			api.Tran{Label: 3, Pre: []int{0, 1, 0}, Post: []int{9, 0, 0}},
			api.Tran{Pre: []int{9, 0, 0}, Post: []int{0, 0, 1}},
			api.Tran{Label: 3, Pre: []int{0, 0, 1}, Post: []int{9, 0, 0}}), "two that are the same go on apart"},
	} {
		if got, err := Busy(c.n); !sameNet(got, c.want) || err != api.OK {
			t.Errorf("%s: %v, %d, not %v", c.what, got, err, c.want)
		}
	}
}

// Places and transitions both have their limits, and each alone is enough.
func TestBusyFull(t *testing.T) {
	for places := range api.MaxPlaces + 1 {
		for seen := range api.MaxTrans + 1 {
			for unseen := range api.MaxTrans + 1 - seen {
				n := made(places)
				for k := range seen + unseen {
					label := 0
					if k >= unseen {
						label = 1 + k
					}
					n.Trans = append(n.Trans, api.Tran{Label: label, Pre: one(places), Post: one(places)})
				}
				got, err := Busy(n)
				if places+seen > 16 || 2*seen+unseen > 24 {
					if !sameNet(got, api.Net{}) || err != api.ErrFull {
						t.Errorf("%d places, %d seen, %d not: %v, %d", places, seen, unseen, got, err)
					}
					continue
				}
				if err != api.OK || net.Wrong(got) != api.OK || got.Places != places+seen || len(got.Trans) != 2*seen+unseen {
					t.Errorf("%d places, %d seen, %d not: %v, %d", places, seen, unseen, got, err)
				}
			}
		}
	}
}

// paired answers for each transition of n where it, or the first of its two, stands in Busy(n), and its place there (-1: none).
func paired(n api.Net) (at, place []int) {
	trans, places := 0, n.Places
	for _, t := range n.Trans {
		at = append(at, trans)
		trans++
		if t.Label == 0 {
			place = append(place, -1)
			continue
		}
		place = append(place, places)
		trans++
		places++
	}
	return at, place
}

// shown is the mark of Busy(n) that c is.
func shown(n api.Net, c api.Case) []int {
	m := slices.Clone(c.Mark)
	for t, tran := range n.Trans {
		if tran.Label != 0 {
			m = append(m, c.Busy[t])
		}
	}
	return m
}

// Work is a place: what is done in a case fires in the net that shows what goes on, and has the same errors.
func TestWorkIsAPlace(t *testing.T) {
	did := 0
	many(3000, func(n api.Net, next func(below int) int) {
		b, err := Busy(n)
		if err != api.OK {
			t.Fatalf("%v: %d", n, err)
		}
		at, place := paired(n)
		c, _ := Begin(n, next(n.Places))
		for range 40 {
			if len(n.Trans) == 0 {
				continue
			}
			tran := next(len(n.Trans))
			o, fires := api.CaseOp{Kind: api.CaseSkip, Tran: tran}, at[tran]
			if place[tran] >= 0 {
				o.Kind = api.CaseBegin + next(2)
				fires += o.Kind - api.CaseBegin
			}
			want, wantErr := net.Fire(b, shown(n, c), fires)
			got, err := Do(n, c, o)
			if err != wantErr {
				t.Fatalf("%v, %v, %v: %d, not %d", n, c, o, err, wantErr)
			}
			if err != api.OK {
				continue
			}
			did++
			if c = got; !slices.Equal(shown(n, c), want) {
				t.Fatalf("%v, %v: %v, not %v", n, o, c, want)
			}
		}
	})
	if did < 5000 {
		t.Errorf("%d were done: too few to tell", did)
	}
}

// What is built of blocks is as sound, and says the same, if it takes its time.
func TestBusyNetsOfBlocks(t *testing.T) {
	step := func(label int) api.Block { return api.Block{Kind: api.Step, Label: label} }
	kids := func(kind int, l ...api.Block) api.Block { return api.Block{Kind: kind, Kids: l} }
	for _, block := range []api.Block{
		step(1),
		{Kind: api.Silent},
		kids(api.Seq, step(1), step(2), step(3)),
		kids(api.Choice, step(1), kids(api.Seq, step(2), step(1))),
		kids(api.Both, step(1), kids(api.Seq, step(2), step(3))),
		kids(api.Loop, step(1), step(2)),
		kids(api.Loop, kids(api.Both, step(1), step(2)), api.Block{Kind: api.Silent}),
	} {
		n, _ := grow.Grow(block)
		b, err := Busy(n)
		if err != api.OK {
			t.Fatalf("%v: %d", block, err)
		}
		if v, err := sound.Judge(b, 0, 1, api.MaxStates); v.Kind != api.Sound || err != api.OK {
			t.Errorf("%v: %v, %d", block, v, err)
		}
		want, wantErr := tongue.Words(n, 0, 1, 6)
		if got, err := tongue.Words(b, 0, 1, 6); !reflect.DeepEqual(got, want) || err != wantErr || err != api.OK {
			t.Errorf("%v: %v, %d, not %v, %d", block, got, err, want, wantErr)
		}
	}
}

// nil and empty lists are the same.
func TestNothing(t *testing.T) {
	for _, n := range []api.Net{{}, {Trans: []api.Tran{}}} {
		for _, c := range []api.Case{{}, {Mark: []int{}}, {Busy: []int{}}, {Mark: []int{}, Busy: []int{}}} {
			if !Right(n, c) {
				t.Errorf("%v, %v: not right", n, c)
			}
		}
	}
	for _, tran := range []api.Tran{{Label: 1}, {Label: 1, Pre: []int{}, Post: []int{}}, {Label: 1, Post: []int{}}} {
		for _, in := range []api.Case{{Busy: []int{1}}, {Mark: []int{}, Busy: []int{1}}} {
			for kind, want := range map[int]int{api.CaseBegin: 2, api.CaseEnd: 0, api.CaseUndo: 0} {
				got, err := Do(made(0, tran), in, api.CaseOp{Kind: kind})
				if !sameCase(got, api.Case{Busy: []int{want}}) || err != api.OK {
					t.Errorf("without places, kind %d: %v, %d", kind, got, err)
				}
			}
		}
		if got, err := Busy(made(0, tran)); got.Places != 1 || len(got.Trans) != 2 || err != api.OK {
			t.Errorf("without places: %v, %d", got, err)
		}
	}
}

// Behind the end of a list there may be spare room: it is neither looked at nor changed.
func TestSpareRoom(t *testing.T) {
	spare := func(l ...int) []int { return append(l, 77, -77)[:len(l)] }
	room := func() []api.Tran {
		return []api.Tran{{Label: 5, Pre: spare(2, 0), Post: spare(0, 3)}, {Pre: spare(2, 0), Post: spare(0, 3)}, {Label: 99, Pre: []int{5}}}
	}
	trans := room()
	n := api.Net{Places: 2, Trans: trans[:2]}
	in := api.Case{Mark: spare(2, 0), Busy: spare(1, 0)}
	ops := []api.CaseOp{{Kind: api.CaseBegin}, {Kind: api.CaseEnd}, {Kind: api.CaseUndo}, {Kind: api.CaseSkip, Tran: 1}, {Kind: 99, Tran: 99}}
	for _, o := range ops[:4] {
		agrees(t, n, in, o)
	}
	if got, errs, err := Play(n, 1, ops[:2]); !sameCase(got, api.Case{Mark: []int{0, 1}, Busy: []int{0, 0}}) || len(errs) != 2 || err != api.OK {
		t.Errorf("Play: %v, %v, %d", got, errs, err)
	}
	got, err := Busy(n)
	want, _ := Busy(heavy())
	if !sameNet(got, want) || err != api.OK || !Right(n, in) {
		t.Errorf("the room behind the end is looked at: %v, %d", got, err)
	}
	if !reflect.DeepEqual(trans, room()) || ops[4] != (api.CaseOp{Kind: 99, Tran: 99}) {
		t.Errorf("what was handed in was changed: %v, %v", trans, ops)
	}
	for k, l := range [][]int{trans[0].Pre, trans[0].Post, trans[1].Pre, trans[1].Post, in.Mark, in.Busy} {
		if !slices.Equal(l[:4][2:], []int{77, -77}) {
			t.Errorf("list %d: the room behind it was changed: %v", k, l[:4])
		}
	}
	if !sameCase(in, api.Case{Mark: []int{2, 0}, Busy: []int{1, 0}}) {
		t.Errorf("the case was changed: %v", in)
	}
}

// lists are all lists of numbers of a case or a net.
func lists(c api.Case, n api.Net) [][]int {
	l := [][]int{c.Mark, c.Busy}
	for _, t := range n.Trans {
		l = append(l, t.Pre, t.Post)
	}
	return l
}

// Whoever changes a list of an answer, or goes on behind its end, changes neither another one nor what was handed in.
func TestAnswersAreNew(t *testing.T) {
	n, in := heavy(), api.Case{Mark: []int{4, 5}, Busy: []int{6, 7}}
	op := func(kind, tran int) func() [][]int {
		return func() [][]int {
			c, _ := Do(n, in, api.CaseOp{Kind: kind, Tran: tran})
			return lists(c, api.Net{})
		}
	}
	for what, answer := range map[string]func() [][]int{
		"skip":  op(api.CaseSkip, 1),
		"begin": op(api.CaseBegin, 0),
		"end":   op(api.CaseEnd, 0),
		"undo":  op(api.CaseUndo, 0),
		"Begin": func() [][]int { c, _ := Begin(n, 0); return lists(c, api.Net{}) },
		"Play":  func() [][]int { c, _, _ := Play(n, 0, nil); return lists(c, api.Net{}) },
		"Busy":  func() [][]int { b, _ := Busy(n); return lists(api.Case{}, b) },
	} {
		for k := range answer() {
			want, got := answer(), answer()
			_ = append(got[k], 88)
			for p := range got[k] {
				got[k][p], want[k][p] = 99, 99
			}
			if !reflect.DeepEqual(got, want) {
				t.Errorf("%s, list %d: %v, not %v", what, k, got, want)
			}
		}
		if !reflect.DeepEqual(n, heavy()) || !sameCase(in, api.Case{Mark: []int{4, 5}, Busy: []int{6, 7}}) {
			t.Fatalf("%s shares memory with what was handed in: %v, %v", what, n, in)
		}
	}
}

// What was handed in may be changed as soon as there is an answer.
func TestNothingIsKept(t *testing.T) {
	n, in := heavy(), api.Case{Mark: []int{4, 5}, Busy: []int{6, 7}}
	c, _ := Do(n, in, api.CaseOp{Kind: api.CaseSkip, Tran: 1})
	b, _ := Busy(n)
	want, _ := Busy(heavy())
	for _, l := range lists(in, n) {
		for p := range l {
			l[p] = 9
		}
	}
	n.Trans[0].Label = 9
	if !sameCase(c, api.Case{Mark: []int{2, 8}, Busy: []int{6, 7}}) || !sameNet(b, want) {
		t.Errorf("%v, %v", c, b)
	}
}

// One list may be handed in for several things.
func TestSharedLists(t *testing.T) {
	l := []int{1, 2}
	n := made(2, api.Tran{Label: 1, Pre: l, Post: l}, api.Tran{Label: 2, Pre: l, Post: l})
	for kind, want := range map[int]api.Case{
		api.CaseBegin: {Mark: []int{0, 0}, Busy: []int{1, 3}},
		api.CaseEnd:   {Mark: []int{2, 4}, Busy: []int{1, 1}},
		api.CaseUndo:  {Mark: []int{2, 4}, Busy: []int{1, 1}},
	} {
		got, err := Do(n, api.Case{Mark: l, Busy: l}, api.CaseOp{Kind: kind, Tran: 1})
		if !sameCase(got, want) || err != api.OK || !slices.Equal(l, []int{1, 2}) {
			t.Errorf("kind %d: %v, %d, and the list is %v", kind, got, err, l)
		}
	}
}

func ExampleBegin() {
	n := api.Net{Places: 2, Trans: []api.Tran{{Label: 1, Pre: []int{1, 0}, Post: []int{0, 1}}}}
	fmt.Println(Begin(n, 0))
	fmt.Println(Begin(n, 2))
	// Output:
	// {[1 0] [0]} 0
	// {[] []} 3
}

func ExampleDo() {
	n := api.Net{Places: 2, Trans: []api.Tran{{Label: 1, Pre: []int{1, 0}, Post: []int{0, 1}}}}
	c, _ := Begin(n, 0)
	c, err := Do(n, c, api.CaseOp{Kind: api.CaseBegin, Tran: 0})
	fmt.Println(c, err == api.OK)
	fmt.Println(Do(n, c, api.CaseOp{Kind: api.CaseUndo, Tran: 0}))
	fmt.Println(Do(n, c, api.CaseOp{Kind: api.CaseEnd, Tran: 0}))
	// Output:
	// {[0 0] [1]} true
	// {[1 0] [0]} 0
	// {[0 1] [0]} 0
}

func ExamplePlay() {
	n := api.Net{Places: 2, Trans: []api.Tran{{Label: 1, Pre: []int{1, 0}, Post: []int{0, 1}}}}
	fmt.Println(Play(n, 0, []api.CaseOp{{Kind: api.CaseEnd}, {Kind: api.CaseBegin}, {Kind: api.CaseEnd}}))
	// Output: {[0 1] [0]} [3 0 0] 0
}

func ExampleBusy() {
	n := api.Net{Places: 2, Trans: []api.Tran{{Label: 1, Pre: []int{1, 0}, Post: []int{0, 1}}}}
	fmt.Println(Busy(n))
	// Output: {3 [{0 [1 0 0] [0 0 1]} {1 [0 0 1] [0 1 0]}]} 0
}
