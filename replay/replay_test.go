package replay

import (
	"fmt"
	"math"
	"reflect"
	"slices"
	"testing"

	"tokenhall/api"
	"tokenhall/blocks"
	"tokenhall/grow"
	"tokenhall/net"
	"tokenhall/shape"
	"tokenhall/tongue"
)

// line is a transition by its label and places; a place that stands there twice has weight 2.
type line struct {
	label    int
	from, to []int
}

// at are places.
func at(places ...int) []int { return places }

// times is x that often.
func times(x, many int) []int { return slices.Repeat([]int{x}, many) }

// made is the net of these lines.
func made(places int, lines ...line) api.Net {
	n := api.Net{Places: places}
	for _, l := range lines {
		tran := api.Tran{Label: l.label, Pre: make([]int, places), Post: make([]int, places)}
		for _, p := range l.from {
			tran.Pre[p]++
		}
		for _, p := range l.to {
			tran.Post[p]++
		}
		n.Trans = append(n.Trans, tran)
	}
	return n
}

// row is label 1, then label 2, by way of place 2.
func row() api.Net {
	return made(3, line{1, at(0), at(2)}, line{2, at(2), at(1)})
}

// fork is label 1, then label 2 beside label 3, then label 4.
func fork() api.Net {
	return made(6, line{1, at(0), at(2, 3)}, line{2, at(2), at(4)}, line{3, at(3), at(5)}, line{4, at(4, 5), at(1)})
}

// heavy makes nine tokens of one, of which label 2 takes nine at once, and label 3 seven, to put five back.
func heavy() api.Net {
	return made(3, line{1, at(0), times(2, 9)}, line{2, times(2, 9), at(1)}, line{3, times(2, 7), times(2, 5)})
}

// ring is label 1 from place 0 to place 2, label 2 from there back to it, and label 3 from there to place 1.
func ring() api.Net {
	return made(3, line{1, at(0), at(2)}, line{2, at(2), at(2)}, line{3, at(2), at(1)})
}

// large has as many places, transitions and labels as there may be, and puts and takes as much as one may.
func large() api.Net {
	const end = api.MaxPlaces - 1
	n := made(api.MaxPlaces)
	for k := range api.MaxTrans {
		x := api.Tran{Label: api.MaxLabel - k, Pre: times(api.MaxWeight, api.MaxPlaces), Post: times(api.MaxWeight, api.MaxPlaces)}
		x.Pre[end], x.Post[0] = 0, 0
		n.Trans = append(n.Trans, x)
	}
	return n
}

func check(t *testing.T, what string, n api.Net, i, o int, trace []int, want api.Played, err api.Errno) {
	t.Helper()
	if got, e := Replay(n, i, o, trace); got != want || e != err {
		t.Errorf("%s: Replay(%v, %d, %d, %v) is %+v, %d, not %+v, %d", what, n, i, o, trace, got, e, want, err)
	}
}

func TestReplay(t *testing.T) {
	for _, c := range []struct {
		what                    string
		n                       api.Net
		i, o                    int
		trace                   []int
		put, taken, lacks, left int
	}{
		{"nothing is seen", row(), 0, 1, nil, 1, 1, 1, 1},
		{"it fits", row(), 0, 1, at(1, 2), 3, 3, 0, 0},
		{"the document's twentieth example: begins too late", row(), 0, 1, at(2), 2, 2, 1, 1},
		{"ends too early", row(), 0, 1, at(1), 2, 2, 1, 1},
		{"the wrong order: what came later does not give back what was added", row(), 0, 1, at(2, 1), 3, 3, 1, 1},
		{"each twice", row(), 0, 1, at(1, 1, 2, 2), 5, 5, 1, 1},
		{"one behind the other, twice", row(), 0, 1, at(1, 2, 1, 2), 5, 5, 1, 1},
		{"the last one twice", row(), 0, 1, at(1, 2, 2), 4, 4, 1, 1},
		{"the first one twice", row(), 0, 1, at(1, 1, 2), 4, 4, 1, 1},
		{"from place 2 to place 0", made(3, line{7, at(2), at(1)}, line{26, at(1), at(0)}), 2, 0, at(7, 26), 3, 3, 0, 0},
		{"labels are no numbers of transitions", made(3, line{2, at(0), at(2)}, line{1, at(2), at(1)}), 0, 1, at(2, 1), 3, 3, 0, 0},
		{"side by side", fork(), 0, 1, at(1, 2, 3, 4), 6, 6, 0, 0},
		{"side by side, the other way round", fork(), 0, 1, at(1, 3, 2, 4), 6, 6, 0, 0},
		{"one of two is not done", fork(), 0, 1, at(1, 3, 4), 5, 5, 1, 1},
		{"neither is done", fork(), 0, 1, at(1, 4), 4, 4, 2, 2},
		{"both without a beginning", fork(), 0, 1, at(2, 3, 4), 4, 5, 2, 1},
		{"both without an end", fork(), 0, 1, at(1, 2, 3), 5, 4, 1, 2},
		{"only the end", fork(), 0, 1, at(4), 2, 3, 2, 1},
		{"only the beginning", fork(), 0, 1, at(1), 3, 2, 1, 2},
		{"nine at once", heavy(), 0, 1, at(1, 2), 11, 11, 0, 0},
		{"all nine lack", heavy(), 0, 1, at(2), 2, 10, 9, 1},
		{"some of nine lack", heavy(), 0, 1, at(1, 3, 2), 16, 18, 2, 0},
		{"more and more of them lack", heavy(), 0, 1, at(1, 3, 3, 2), 21, 25, 4, 0},
		{"some of nine are left", heavy(), 0, 1, at(1, 3), 15, 9, 1, 7},
		{"some lack, and some that were put behind that are left", heavy(), 0, 1, at(3, 1), 15, 9, 8, 14},
		{"what is taken and put again", ring(), 0, 1, at(1, 2, 2, 3), 5, 5, 0, 0},
		{"what is put does not serve for what is taken", ring(), 0, 1, at(2), 2, 2, 2, 2},
		{"but it does the next time", ring(), 0, 1, at(2, 2, 2), 4, 4, 2, 2},
		{"two at the end, of which one is taken", made(2, line{1, at(0), at(1, 1)}), 0, 1, at(1), 3, 2, 0, 1},
		{"the end has two tokens by two ways", made(2, line{1, at(0), at(1)}, line{2, at(0), at(1)}), 0, 1, at(1, 2), 3, 3, 1, 1},
		{"two taken at the beginning", made(2, line{1, at(0, 0), at(1)}), 0, 1, at(1), 2, 3, 1, 0},
	} {
		want := api.Played{Put: c.put, Taken: c.taken, Lacked: c.lacks, Left: c.left}
		check(t, c.what, c.n, c.i, c.o, c.trace, want, api.OK)
	}
}

// MaxTrace labels may be replayed, and not one more.
func TestLongTraces(t *testing.T) {
	for many := range api.MaxTrace - 1 {
		trace := append(append(at(1), times(2, many)...), 3)
		check(t, "long", ring(), 0, 1, trace, api.Played{Put: many + 3, Taken: many + 3}, api.OK)
	}
	for _, many := range []int{api.MaxTrace + 1, api.MaxTrace + 2, 2 * api.MaxTrace, 100000} {
		for _, label := range []int{1, 2, 0, 9, -1} {
			check(t, "too long", ring(), 0, 1, times(label, many), api.Played{}, api.ErrRange)
		}
	}
}

// All limits at once: 15 places, nine tokens each, sixty times.
func TestLargest(t *testing.T) {
	const all = 9 * 15 * 60
	for k := range api.MaxTrans {
		trace := times(api.MaxLabel-k, api.MaxTrace)
		check(t, "all of one", large(), 0, api.MaxPlaces-1, trace, api.Played{Put: 1 + all, Taken: 1 + all, Lacked: 8 + 9*59 + 9*14, Left: 9*14 + 9*60 - 1}, api.OK)
	}
	for _, label := range []int{1, 2, 0, -1, 27} {
		check(t, "no such label", large(), 0, api.MaxPlaces-1, times(label, 1), api.Played{}, api.ErrNone)
	}
}

// farNumbers are no labels and no places.
func farNumbers() []int {
	return []int{-1, -2, 27, 28, 256, 1 << 32, -1 << 32, 1<<32 + 1, 1<<32 + 2, math.MinInt, math.MinInt + 1, math.MaxInt}
}

func TestNoSuchLabel(t *testing.T) {
	for _, x := range append(farNumbers(), 0, 3, 4, 26) {
		for k := range 4 {
			for _, ahead := range [][]int{at(1, 2, 1), at(2, 2, 2)} {
				check(t, "no transition has it", row(), 0, 1, slices.Insert(slices.Clone(ahead), k, x), api.Played{}, api.ErrNone)
			}
		}
		check(t, "the last of many", row(), 0, 1, append(times(1, api.MaxTrace-1), x), api.Played{}, api.ErrNone)
	}
}

// Of all labels the one that is there is found, and no other one.
func TestEachLabel(t *testing.T) {
	for label := 1; label <= api.MaxLabel; label++ {
		n := made(2, line{label, at(0), at(1)})
		for x := range api.MaxLabel + 2 {
			if x == label {
				check(t, "its label", n, 0, 1, at(x), api.Played{Put: 2, Taken: 2}, api.OK)
				continue
			}
			check(t, "another label", n, 0, 1, at(x), api.Played{}, api.ErrNone)
		}
	}
}

// Nobody may be unseen, and no two may be called the same, wherever they stand, and whatever is to be replayed.
func TestNotNamed(t *testing.T) {
	traces := [][]int{nil, at(1), at(1, 2), at(0), at(9), times(1, api.MaxTrace), times(1, api.MaxTrace+1)}
	for k := range 4 {
		for label := range 5 {
			n := fork()
			n.Trans[k].Label = label
			if label == k+1 {
				check(t, "named", n, 0, 1, nil, api.Played{Put: 1, Taken: 1, Lacked: 1, Left: 1}, api.OK)
				continue
			}
			for _, trace := range traces {
				check(t, "unseen, or named the same", n, 0, 1, trace, api.Played{}, api.ErrForm)
			}
		}
	}
	for k := range api.MaxTrans {
		for j := range api.MaxTrans {
			if j != k {
				n := large()
				n.Trans[k].Label = n.Trans[j].Label
				check(t, "two of many", n, 0, api.MaxPlaces-1, nil, api.Played{}, api.ErrForm)
			}
		}
		n := large()
		n.Trans[k].Label = 0
		check(t, "one of many", n, 0, api.MaxPlaces-1, nil, api.Played{}, api.ErrForm)
	}
	check(t, "all of it done alike", made(2, line{1, at(0), at(1)}, line{1, at(0), at(1)}), 0, 1, at(1), api.Played{}, api.ErrForm)
}

// shape.Wrong's errors come first.
func TestWrongNets(t *testing.T) {
	label, short, weight := row(), row(), row()
	label.Trans[0].Label = api.MaxLabel + 1
	short.Trans[1].Post = at(0, 1)
	weight.Trans[1].Pre[2] = api.MaxWeight + 1
	below := made(2, line{-1, at(0), at(1)})
	unseen := made(2, line{0, at(0), at(1)})
	apart := made(4, line{1, at(0), at(1)}, line{1, at(2), at(3)})
	tooMany := large()
	tooMany.Trans = append(tooMany.Trans, api.Tran{Label: 1, Pre: tooMany.Trans[0].Pre, Post: tooMany.Trans[0].Post})
	nets := []api.Net{row(), fork(), large(), label, short, weight, below, unseen, apart, tooMany, {}, {Places: 1}, {Places: 2},
		{Places: -1}, {Places: math.MinInt}, {Places: api.MaxPlaces}, {Places: api.MaxPlaces + 1}, {Places: math.MaxInt}, {Trans: []api.Tran{{}}}}
	came := map[api.Errno]int{}
	for _, n := range nets {
		for _, i := range append(farNumbers(), 0, 1, 2, 3, 15, 16) {
			for _, o := range append(farNumbers(), 0, 1, 2, 3, 15, 16) {
				err := shape.Wrong(n, i, o)
				if err == api.OK {
					continue
				}
				came[err]++
				for _, trace := range [][]int{nil, at(1, 2), at(0), at(9), times(1, api.MaxTrace+1)} {
					check(t, "wrong", n, i, o, trace, api.Played{}, err)
				}
			}
		}
	}
	if came[api.ErrRange] < 1000 || came[api.ErrForm] < 1000 {
		t.Errorf("%v came: too few to tell", came)
	}
}

// told is what the promise says, token by token.
func told(n api.Net, i, o int, trace []int) (api.Played, api.Errno) {
	if err := shape.Wrong(n, i, o); err != api.OK {
		return api.Played{}, err
	}
	by := map[int]api.Tran{}
	for _, x := range n.Trans {
		by[x.Label] = x
	}
	if _, unseen := by[0]; unseen || len(by) < len(n.Trans) {
		return api.Played{}, api.ErrForm
	}
	if len(trace) > 60 {
		return api.Played{}, api.ErrRange
	}
	var r api.Played
	var bag []int // the place of each token
	put := func(p int) {
		r.Put++
		bag = append(bag, p)
	}
	take := func(p int) {
		r.Taken++
		k := slices.Index(bag, p)
		if k < 0 {
			r.Lacked++
			return
		}
		bag = slices.Delete(bag, k, k+1)
	}
	each := func(l []int, do func(p int)) {
		for p, many := range l {
			for range many {
				do(p)
			}
		}
	}
	put(i)
	for _, label := range trace {
		x, ok := by[label]
		if !ok {
			return api.Played{}, api.ErrNone
		}
		each(x.Pre, take)
		each(x.Post, put)
	}
	take(o)
	r.Left = len(bag)
	return r, api.OK
}

// many makes nets of two to seven places, most of them with all they have on ways from one place to another one.
func many(count int, each func(n api.Net, i, o int, next func(below int) int)) {
	seed := uint32(20)
	next := func(below int) int {
		seed = seed*1664525 + 1013904223
		return int(seed>>8) % below
	}
	for range count {
		places := 2 + next(6)
		order := make([]int, places)
		for k := range order {
			order[k] = k
		}
		for k := range order {
			j := next(k + 1)
			order[k], order[j] = order[j], order[k]
		}
		most := 1 + next(api.MaxWeight)*next(2)
		some := func(l []int, of []int) {
			for range next(3) {
				l[of[next(len(of))]] = next(most + 1)
			}
		}
		n := made(places)
		label := 1 + next(20)
		for k := range places - 1 + next(4) {
			x := api.Tran{Label: label, Pre: make([]int, places), Post: make([]int, places)}
			some(x.Pre, order[:places-1])
			some(x.Post, order[1:])
			from := k
			if k >= places-1 {
				from = next(places - 1)
			}
			x.Pre[order[from]], x.Post[order[1+from]] = 1+next(most), 1+next(most)
			n.Trans = append(n.Trans, x)
			label = label%api.MaxLabel + 1
		}
		if next(20) == 0 {
			n.Trans[next(len(n.Trans))].Label = next(api.MaxLabel + 1)
		}
		each(n, order[0], order[places-1], next)
	}
}

// someTrace goes along with what can be done now, with a label here and there that does not fit.
func someTrace(n api.Net, i int, next func(below int) int, count int) []int {
	var trace []int
	m := shape.Start(n, i)
	for range count {
		k := next(len(n.Trans))
		if able, _ := net.Enabled(n, m); len(able) > 0 && next(8) > 0 {
			k = able[next(len(able))]
		}
		if after, err := net.Fire(n, m, k); err == api.OK {
			m = after
		}
		trace = append(trace, n.Trans[k].Label)
	}
	if count > 0 && next(20) == 0 {
		trace[next(count)] = next(api.MaxLabel+4) - 2
	}
	return trace
}

func TestManyNets(t *testing.T) {
	came := map[api.Errno]int{}
	fits, lacks, left := 0, 0, 0
	many(40000, func(n api.Net, i, o int, next func(below int) int) {
		count := next(8)
		if next(3) == 0 {
			count = next(api.MaxTrace + 3)
		}
		trace := someTrace(n, i, next, count)
		if next(40) == 0 {
			i, o = o, i
		}
		want, err := told(n, i, o, trace)
		check(t, "as it is told", n, i, o, trace, want, err)
		came[err]++
		switch {
		case err != api.OK:
		case want.Lacked == 0 && want.Left == 0:
			fits++
		case want.Lacked == 0:
			left++
		case want.Left == 0:
			lacks++
		}
	})
	for _, err := range []api.Errno{api.OK, api.ErrForm, api.ErrRange, api.ErrNone} {
		if came[err] < 100 {
			t.Errorf("%d came %d times: too few to tell", err, came[err])
		}
	}
	if fits < 300 || lacks < 100 || left < 100 {
		t.Errorf("%d fit, of %d something lacks, of %d something is left: too few to tell", fits, lacks, left)
	}
}

// run is what the transitions of these labels make of the beginning.
func run(n api.Net, i int, trace []int) ([]int, api.Errno) {
	var seq []int
	for _, label := range trace {
		seq = append(seq, slices.IndexFunc(n.Trans, func(x api.Tran) bool { return x.Label == label }))
	}
	return net.Run(n, shape.Start(n, i), seq)
}

// A trace fits, if, and only if, nothing lacks, and nothing is left; and tokens add up.
func TestWhatFits(t *testing.T) {
	fits, other := 0, 0
	many(20000, func(n api.Net, i, o int, next func(below int) int) {
		trace := someTrace(n, i, next, next(10))
		r, err := Replay(n, i, o, trace)
		if err != api.OK {
			return
		}
		if r.Put+r.Lacked != r.Taken+r.Left {
			t.Errorf("%v, %v: %+v do not add up", n, trace, r)
		}
		m, err := run(n, i, trace)
		ends := err == api.OK && slices.Equal(m, shape.Start(n, o))
		if ends != (r.Lacked == 0 && r.Left == 0) {
			t.Errorf("%v, %v comes to %v, %d: %+v", n, trace, m, err, r)
		}
		if err != api.OK && r.Lacked == 0 {
			t.Errorf("%v, %v can't be done: %+v", n, trace, r)
		}
		if ends {
			fits++
		} else {
			other++
		}
	})
	if fits < 300 || other < 300 {
		t.Errorf("%d fit, %d do not: too few to tell", fits, other)
	}
}

// Words of a net fit, and no other trace of its labels does.
func TestWords(t *testing.T) {
	for _, n := range []api.Net{row(), fork(), heavy(), ring(), made(2, line{1, at(0), at(1, 1)}), made(2, line{1, at(0), at(1)}, line{3, at(0), at(1)})} {
		words := 0
		traces := [][]int{nil}
		for range 5 {
			for _, trace := range traces {
				r, err := Replay(n, 0, 1, trace)
				has, e := tongue.Has(n, 0, 1, trace)
				if err != api.OK || e != api.OK || has != (r.Lacked == 0 && r.Left == 0) {
					t.Errorf("%v, %v: %+v, %d, and a word: %v, %d", n, trace, r, err, has, e)
				}
				if has {
					words++
				}
			}
			var longer [][]int
			for _, trace := range traces {
				for _, x := range n.Trans {
					longer = append(longer, append(slices.Clone(trace), x.Label))
				}
			}
			traces = longer
		}
		if want, _ := tongue.Words(n, 0, 1, 4); len(want) != words {
			t.Errorf("%v: %d words, not %d", n, words, len(want))
		}
	}
}

// What is built of blocks, without anything that nobody sees, has just the block's words.
func TestBlocks(t *testing.T) {
	step := func(label int) api.Block { return api.Block{Kind: api.Step, Label: label} }
	pick := api.Block{Kind: api.Choice, Kids: []api.Block{step(2), step(3)}}
	b := api.Block{Kind: api.Seq, Kids: []api.Block{step(1), pick, step(4)}}
	n, err := grow.Grow(b)
	if err != api.OK {
		t.Fatal(err)
	}
	for k := range 4 * 4 * 4 * 4 {
		trace := at(1+k%4, 1+k/4%4, 1+k/16%4, 1+k/64)
		for many := range 5 {
			r, err := Replay(n, 0, 1, trace[:many])
			if has := blocks.Has(b, trace[:many]); err != api.OK || has != (r.Lacked == 0 && r.Left == 0) {
				t.Errorf("%v: %+v, %d, and a word: %v", trace[:many], r, err, has)
			}
		}
	}
}

// What was handed in is only read, and neither it nor anything else is kept.
func TestOnlyRead(t *testing.T) {
	for _, trace := range [][]int{nil, at(1, 2), at(2, 2, 1), at(1, 9), times(2, api.MaxTrace+1)} {
		for _, o := range []int{1, 2, 7} {
			n, in := row(), slices.Clone(trace)
			want, err := told(row(), 0, o, trace)
			check(t, "once", n, 0, o, in, want, err)
			if !reflect.DeepEqual(n, row()) || !slices.Equal(in, trace) {
				t.Errorf("what was handed in was changed: %v, %v", n, in)
			}
			_, _ = Replay(heavy(), 0, 1, at(3, 3, 3))
			_, _ = Replay(api.Net{Places: -1}, 0, 1, at(3, 3, 3))
			check(t, "once more", n, 0, o, in, want, err)
			clear(in)
			n.Trans[0], n.Trans[1] = api.Tran{}, api.Tran{}
			check(t, "of another net", row(), 0, o, trace, want, err)
		}
	}
}

// Behind the end of a list there may be spare room: it is neither looked at nor changed.
func TestSpareRoom(t *testing.T) {
	spare := func(l ...int) []int { return append(l, 1, 2, -77)[:len(l)] }
	n := row()
	for k, x := range n.Trans {
		n.Trans[k].Pre, n.Trans[k].Post = spare(x.Pre...), spare(x.Post...)
	}
	trans := append(n.Trans, api.Tran{Label: 3, Pre: at(0, 0, 0), Post: at(0, 0, 0)})
	n.Trans = trans[:2]
	trace := spare(1, 2)
	check(t, "spare room", n, 0, 1, trace, api.Played{Put: 3, Taken: 3}, api.OK)
	check(t, "a label in spare room", n, 0, 1, at(3), api.Played{}, api.ErrNone)
	full := times(1, api.MaxTrace+1)
	check(t, "a long trace with spare room", n, 0, 1, full[:api.MaxTrace], api.Played{Put: 61, Taken: 61, Lacked: 60, Left: 60}, api.OK)
	for k, l := range [][]int{trace, n.Trans[0].Pre, n.Trans[0].Post, n.Trans[1].Pre, n.Trans[1].Post} {
		if !slices.Equal(l[:len(l)+3][len(l):], at(1, 2, -77)) {
			t.Errorf("list %d: the room behind it was changed: %v", k, l[:len(l)+3])
		}
	}
	if !reflect.DeepEqual(trans[2], api.Tran{Label: 3, Pre: at(0, 0, 0), Post: at(0, 0, 0)}) {
		t.Errorf("the room behind the transitions was changed: %v", trans[2])
	}
}

// nil and empty lists are the same, and one list may be handed in for several things.
func TestListsAlike(t *testing.T) {
	for _, trace := range [][]int{nil, {}} {
		check(t, "nothing is seen", row(), 0, 1, trace, api.Played{Put: 1, Taken: 1, Lacked: 1, Left: 1}, api.OK)
		check(t, "nothing is there", api.Net{}, 0, 1, trace, api.Played{}, api.ErrForm)
		check(t, "nothing is there", api.Net{Places: 2, Trans: []api.Tran{}}, 0, 1, trace, api.Played{}, api.ErrForm)
		check(t, "nothing is told", api.Net{Places: 2, Trans: []api.Tran{{Label: 1, Pre: trace, Post: trace}}}, 0, 1, trace, api.Played{}, api.ErrRange)
	}
	l := at(1, 0, 1)
	n := api.Net{Places: 3, Trans: []api.Tran{{Label: 1, Pre: l, Post: at(0, 1, 1)}, {Label: 2, Pre: l, Post: at(0, 1, 0)}}}
	check(t, "one list", n, 0, 1, at(1), api.Played{Put: 3, Taken: 3, Lacked: 1, Left: 1}, api.OK)
	check(t, "the trace is one of the net's lists", n, 0, 1, n.Trans[1].Post[1:2], api.Played{Put: 3, Taken: 3, Lacked: 1, Left: 1}, api.OK)
	if !slices.Equal(l, at(1, 0, 1)) {
		t.Errorf("the list was changed: %v", l)
	}
}

func ExampleReplay() {
	n := api.Net{Places: 3, Trans: []api.Tran{
		{Label: 1, Pre: []int{1, 0, 0}, Post: []int{0, 1, 0}},
		{Label: 2, Pre: []int{0, 1, 0}, Post: []int{0, 0, 1}},
	}}
	r, err := Replay(n, 0, 2, []int{1, 2})
	fmt.Printf("%+v %d\n", r, err)
	r, err = Replay(n, 0, 2, []int{2})
	fmt.Printf("%+v %d\n", r, err)
	// Output:
	// {Put:3 Taken:3 Lacked:0 Left:0} 0
	// {Put:2 Taken:2 Lacked:1 Left:1} 0
}
