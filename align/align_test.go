package align

import (
	"fmt"
	"math"
	"reflect"
	"slices"
	"testing"

	"tokenhall/api"
	"tokenhall/blocks"
	"tokenhall/grow"
	"tokenhall/net"
	"tokenhall/reach"
	"tokenhall/replay"
	"tokenhall/shape"
	"tokenhall/tongue"
)

// line is a transition by its label and places; a place that stands there twice has weight 2.
type line struct {
	label    int
	from, to []int
}

// at are places, or labels.
func at(l ...int) []int { return l }

// times is x that often.
func times(x, many int) []int { return slices.Repeat([]int{x}, many) }

// made is the net of these lines.
func made(places int, lines ...line) api.Net {
	n := api.Net{Places: places}
	for _, l := range lines {
		tran := api.Tran{Label: l.label, Pre: make([]int, places), Post: make([]int, places)}
		for _, p := range l.from {
			tran.Pre[p]++
		}
		for _, p := range l.to {
			tran.Post[p]++
		}
		n.Trans = append(n.Trans, tran)
	}
	return n
}

// row is label 1, then label 2, by way of place 2.
func row() api.Net {
	return made(3, line{1, at(0), at(2)}, line{2, at(2), at(1)})
}

// fork is label 1 beside label 2, between two transitions that nobody sees.
func fork() api.Net {
	return made(6, line{0, at(0), at(2, 3)}, line{1, at(2), at(4)}, line{2, at(3), at(5)}, line{0, at(4, 5), at(1)})
}

// ring is label 1, and as often as one likes label 2 and label 1 again.
func ring() api.Net {
	return made(4, line{0, at(0), at(2)}, line{1, at(2), at(3)}, line{2, at(3), at(2)}, line{0, at(3), at(1)})
}

// twins are two ways to the end: label 1 and then 2, and label 1 and then 3 three times.
func twins() api.Net {
	return made(6, line{1, at(0), at(2)}, line{2, at(2), at(1)}, line{1, at(0), at(3)}, line{3, at(3), at(4)}, line{3, at(4), at(5)}, line{3, at(5), at(1)})
}

// idle goes round without being seen, as long as one likes.
func idle() api.Net {
	return made(4, line{0, at(0), at(2)}, line{0, at(2), at(3)}, line{0, at(3), at(2)}, line{0, at(2), at(2)}, line{5, at(3), at(1)})
}

// stuck never comes to its end.
func stuck() api.Net {
	return made(4, line{1, at(0), at(2)}, line{2, at(0), at(3)}, line{3, at(2, 3), at(1)})
}

// extra never comes to its end with nothing beside it.
func extra() api.Net {
	return made(3, line{1, at(0), at(1, 2)}, line{2, at(2), at(1)})
}

// maybe comes to its end with, or without, a token beside it.
func maybe() api.Net {
	return made(3, line{1, at(0), at(1, 2)}, line{2, at(2), at(1)}, line{3, at(0), at(2)})
}

// grows has no end of marks.
func grows() api.Net {
	return made(3, line{1, at(0), at(2)}, line{2, at(2), at(1, 2, 2)})
}

// counted has 292 marks, and one more than last: so many has the stage where last tokens go from place 14 to place 15.
func counted(last int) api.Net {
	return made(16,
		line{0, at(0), slices.Concat(times(2, 9), times(4, 9))},
		line{1, at(2), at(3)}, line{2, at(4), at(5)},
		line{0, slices.Concat(times(3, 9), times(5, 9)), slices.Concat(times(6, 9), times(8, 9))},
		line{3, at(6), at(7)}, line{4, at(8), at(9)},
		line{0, slices.Concat(times(7, 9), times(9, 9)), slices.Concat(times(10, 9), times(12, 8))},
		line{5, at(10), at(11)}, line{6, at(12), at(13)},
		line{0, slices.Concat(times(11, 9), times(13, 8)), times(14, last)},
		line{7, at(14), at(15)},
		line{0, times(15, last), at(1)})
}

// check holds what comes against the cost and the error, and the moves against what the promise says of them.
func check(t *testing.T, what string, n api.Net, i, o int, trace []int, cost int, err api.Errno) {
	t.Helper()
	moves, c, e := Align(n, i, o, trace)
	if c != cost || e != err {
		t.Errorf("%s: Align(%v, %d, %d, %v) costs %d, %d, not %d, %d: %v", what, n, i, o, trace, c, e, cost, err, moves)
		return
	}
	if e != api.OK {
		if len(moves) > 0 {
			t.Errorf("%s: Align(%v, %d, %d, %v) moves %v beside %d", what, n, i, o, trace, moves, e)
		}
		return
	}
	if fault := amiss(n, i, o, trace, moves, c); fault != "" {
		t.Errorf("%s: Align(%v, %d, %d, %v) moves %v, cost %d: %s", what, n, i, o, trace, moves, c, fault)
	}
}

// amiss tells what is not as it should be with moves, whether or not there are cheaper ones.
func amiss(n api.Net, i, o int, trace []int, moves []api.Move, cost int) string {
	m := shape.Start(n, i)
	for k, x := range moves {
		switch x.Kind {
		case api.MoveBoth:
			if x.Label == 0 {
				return fmt.Sprint("nobody sees move ", k)
			}
		case api.MoveTrace:
			if x.Tran != 0 {
				return fmt.Sprint("a transition in move ", k)
			}
			cost--
		case api.MoveNet:
			if x.Label != 0 {
				cost--
			}
		default:
			return fmt.Sprint("no kind in move ", k)
		}
		if x.Kind != api.MoveNet {
			if len(trace) == 0 || trace[0] != x.Label {
				return fmt.Sprint("not the next label in move ", k)
			}
			trace = trace[1:]
		}
		if x.Kind != api.MoveTrace {
			if x.Tran < 0 || x.Tran >= len(n.Trans) || n.Trans[x.Tran].Label != x.Label {
				return fmt.Sprint("not its label in move ", k)
			}
			var err api.Errno
			if m, err = net.Fire(n, m, x.Tran); err != api.OK {
				return fmt.Sprint("can't be done: move ", k)
			}
		}
	}
	if len(trace) > 0 || cost != 0 || !slices.Equal(m, shape.Start(n, o)) {
		return fmt.Sprintf("%v was not seen, %d is not accounted for, and it ends at %v", trace, cost, m)
	}
	return ""
}

func TestAlign(t *testing.T) {
	for _, c := range []struct {
		what  string
		n     api.Net
		i, o  int
		trace []int
		cost  int
	}{
		{"nothing was seen", row(), 0, 1, nil, 2},
		{"it fits", row(), 0, 1, at(1, 2), 0},
		{"the document's twenty-first example", row(), 0, 1, at(2, 5), 2},
		{"begins too late", row(), 0, 1, at(2), 1},
		{"ends too early", row(), 0, 1, at(1), 1},
		{"the wrong order", row(), 0, 1, at(2, 1), 2},
		{"the first one twice", row(), 0, 1, at(1, 1, 2), 1},
		{"the last one twice", row(), 0, 1, at(1, 2, 2), 1},
		{"each twice", row(), 0, 1, at(1, 1, 2, 2), 2},
		{"one behind the other, twice", row(), 0, 1, at(1, 2, 1, 2), 2},
		{"one too many between them", row(), 0, 1, at(1, 9, 2), 1},
		{"one ahead of it, and one behind it", row(), 0, 1, at(9, 1, 2, 9), 2},
		{"none of it fits", row(), 0, 1, at(9, 8, 7), 5},
		{"from place 2 to place 0", made(3, line{7, at(2), at(1)}, line{26, at(1), at(0)}), 2, 0, at(7, 26), 0},
		{"labels are no numbers of transitions", made(3, line{2, at(0), at(2)}, line{1, at(2), at(1)}), 0, 1, at(2, 1), 0},
		{"what nobody sees costs nothing", fork(), 0, 1, at(1, 2), 0},
		{"side by side, the other way round", fork(), 0, 1, at(2, 1), 0},
		{"one of two was not done", fork(), 0, 1, at(2), 1},
		{"neither was done", fork(), 0, 1, nil, 2},
		{"a nought is nothing that is seen", fork(), 0, 1, at(0, 1, 2, 0), 2},
		{"noughts alone", fork(), 0, 1, at(0, 0), 4},
		{"once", ring(), 0, 1, at(1), 0},
		{"round and round", ring(), 0, 1, at(1, 2, 1, 2, 1), 0},
		{"one lacks at the end", ring(), 0, 1, at(1, 2, 1, 2), 1},
		{"one lacks between", ring(), 0, 1, at(1, 2, 2, 1), 1},
		{"several lack between", ring(), 0, 1, at(2, 2, 2), 4},
		{"both ways round", ring(), 0, 1, at(1, 1, 1, 2, 2, 1), 3},
		{"never at all", ring(), 0, 1, nil, 1},
		{"the shorter way", twins(), 0, 1, at(1), 1},
		{"the longer way, for what comes later", twins(), 0, 1, at(1, 3, 3), 1},
		{"as cheap either way", twins(), 0, 1, at(1, 3), 2},
		{"the shorter way, though nothing is seen", twins(), 0, 1, nil, 2},
		{"the longer way, though the beginning lacks", twins(), 0, 1, at(3, 3, 3), 1},
		{"what came first does not decide", twins(), 0, 1, at(1, 2, 3, 3, 3), 1},
		{"round, unseen", idle(), 0, 1, at(5), 0},
		{"round, unseen, and nothing fits", idle(), 0, 1, at(0, 4), 3},
		{"two of the same label, at the same time", made(2, line{1, at(0), at(1)}, line{1, at(0), at(1)}), 0, 1, at(1, 1), 1},
		{"one way is seen, the other one not", made(2, line{1, at(0), at(1)}, line{0, at(0), at(1)}), 0, 1, nil, 0},
		{"one way is not seen, the other one is", made(2, line{0, at(0), at(1)}, line{1, at(0), at(1)}), 0, 1, at(1), 0},
		{"nothing may be left", maybe(), 0, 1, at(1, 2), 2},
		{"with nothing left", maybe(), 0, 1, at(3, 2), 0},
		{"what is never done does no harm", made(3, line{1, at(0), at(2)}, line{2, at(2), at(1)}, line{5, at(2, 2), at(1)}), 0, 1, at(1, 5), 2},
		{"nine at once", made(3, line{1, at(0), times(2, 9)}, line{2, times(2, 9), at(1)}), 0, 1, at(1, 2), 0},
	} {
		check(t, c.what, c.n, c.i, c.o, c.trace, c.cost, api.OK)
	}
}

// Where no others cost as little, the moves are these.
func TestMoves(t *testing.T) {
	for _, c := range []struct {
		n     api.Net
		trace []int
		want  []api.Move
	}{
		{row(), at(1, 2), []api.Move{{Kind: api.MoveBoth, Label: 1, Tran: 0}, {Kind: api.MoveBoth, Label: 2, Tran: 1}}},
		{row(), nil, []api.Move{{Kind: api.MoveNet, Label: 1, Tran: 0}, {Kind: api.MoveNet, Label: 2, Tran: 1}}},
		{row(), at(2), []api.Move{{Kind: api.MoveNet, Label: 1, Tran: 0}, {Kind: api.MoveBoth, Label: 2, Tran: 1}}},
		{row(), at(1, -7, 2), []api.Move{{Kind: api.MoveBoth, Label: 1, Tran: 0}, {Kind: api.MoveTrace, Label: -7}, {Kind: api.MoveBoth, Label: 2, Tran: 1}}},
		{row(), at(1, 0, 2), []api.Move{{Kind: api.MoveBoth, Label: 1, Tran: 0}, {Kind: api.MoveTrace}, {Kind: api.MoveBoth, Label: 2, Tran: 1}}},
		{ring(), at(1), []api.Move{{Kind: api.MoveNet, Tran: 0}, {Kind: api.MoveBoth, Label: 1, Tran: 1}, {Kind: api.MoveNet, Tran: 3}}},
		{fork(), at(2, 1), []api.Move{{Kind: api.MoveNet, Tran: 0}, {Kind: api.MoveBoth, Label: 2, Tran: 2}, {Kind: api.MoveBoth, Label: 1, Tran: 1}, {Kind: api.MoveNet, Tran: 3}}},
	} {
		if moves, _, err := Align(c.n, 0, 1, c.trace); err != api.OK || !slices.Equal(moves, c.want) {
			t.Errorf("%v beside %v: %v, %d, not %v", c.trace, c.n, moves, err, c.want)
		}
	}
}

// farNumbers are no labels and no places.
func farNumbers() []int {
	return []int{-1, -2, 27, 28, 256, 1 << 32, -1 << 32, 1<<32 + 1, 1<<32 + 2, math.MinInt, math.MinInt + 1, math.MaxInt}
}

// What no transition has is a label of the trace alone.
func TestNoSuchLabel(t *testing.T) {
	for _, x := range append(farNumbers(), 0, 3, 4, 26) {
		for k := range 3 {
			check(t, "no transition has it", row(), 0, 1, slices.Insert(at(1, 2), k, x), 1, api.OK)
			check(t, "none of fork has it", fork(), 0, 1, slices.Insert(at(2, 1), k, x), 1, api.OK)
		}
		check(t, "all of it", row(), 0, 1, times(x, api.MaxTrace), api.MaxTrace+2, api.OK)
	}
}

// Of all labels the one that is there is met, and no other one.
func TestEachLabel(t *testing.T) {
	for label := range api.MaxLabel + 1 {
		n := made(2, line{label, at(0), at(1)})
		for x := range api.MaxLabel + 2 {
			cost := 2
			switch {
			case label == 0:
				cost = 1
			case x == label:
				cost = 0
			}
			check(t, "one label", n, 0, 1, at(x), cost, api.OK)
		}
	}
}

// MaxTrace labels may stand in a trace, and not one more.
func TestLongTraces(t *testing.T) {
	for many := range api.MaxTrace + 1 {
		check(t, "round and round", ring(), 0, 1, slices.Repeat(at(1, 2), 30)[:many], (many+1)%2, api.OK)
		check(t, "all that does not fit", ring(), 0, 1, times(9, many), many+1, api.OK)
		if many > 0 {
			check(t, "each with one lacking between", ring(), 0, 1, times(1, many), many-1, api.OK)
			check(t, "one of many", row(), 0, 1, times(2, many), many, api.OK)
		}
	}
	for _, many := range []int{api.MaxTrace + 1, api.MaxTrace + 2, 2 * api.MaxTrace, 100000} {
		for _, label := range []int{1, 2, 0, 9, -1} {
			for _, n := range []api.Net{row(), ring(), idle()} {
				check(t, "too long", n, 0, 1, times(label, many), 0, api.ErrRange)
			}
		}
	}
}

// MaxStates marks may be reached, and not one more; whether the trace is too long is asked behind that.
func TestManyMarks(t *testing.T) {
	n := counted(7)
	if s, err := reach.Graph(n, shape.Start(n, 0), api.MaxStates); err != api.OK || len(s.Marks) != api.MaxStates {
		t.Fatalf("%d marks, %d", len(s.Marks), err)
	}
	whole := slices.Concat(times(1, 9), times(2, 9), times(4, 9), times(3, 9), times(6, 8), times(5, 9), times(7, 7))
	check(t, "all of it", n, 0, 1, whole[:api.MaxTrace], 0, api.OK)
	for many := range api.MaxTrace {
		check(t, "some of it", n, 0, 1, whole[:many], api.MaxTrace-many, api.OK)
		check(t, "the rest of it", n, 0, 1, whole[many:], many, api.OK)
	}
	mixed := slices.Concat(slices.Repeat(at(1, 2), 9), slices.Repeat(at(3, 4), 9), slices.Repeat(at(6, 5), 8), at(5), times(7, 7))
	check(t, "by turns", n, 0, 1, mixed, 0, api.OK)
	check(t, "nothing fits", n, 0, 1, times(8, api.MaxTrace), 2*api.MaxTrace, api.OK)
	check(t, "too long", n, 0, 1, times(8, api.MaxTrace+1), 0, api.ErrRange)
	for _, full := range []api.Net{counted(8), counted(9), grows()} {
		for _, trace := range [][]int{nil, whole, times(0, api.MaxTrace+1)} {
			check(t, "too many marks", full, 0, 1, trace, 0, api.ErrFull)
		}
	}
}

// Where the end is never reached, with nothing beside it, that is told last.
func TestNoEnd(t *testing.T) {
	heavy := made(2, line{1, at(0), at(1, 1)})
	short := made(2, line{1, at(0, 0), at(1)})
	for _, n := range []api.Net{stuck(), extra(), heavy, short} {
		for _, trace := range [][]int{nil, at(1), at(1, 2, 3), at(0), times(1, api.MaxTrace)} {
			check(t, "no end", n, 0, 1, trace, 0, api.ErrNone)
		}
		check(t, "no end, and too long", n, 0, 1, times(1, api.MaxTrace+1), 0, api.ErrRange)
	}
}

// shape.Wrong's errors come first.
func TestWrongNets(t *testing.T) {
	label, short, weight := row(), row(), row()
	label.Trans[0].Label = api.MaxLabel + 1
	short.Trans[1].Post = at(0, 1)
	weight.Trans[1].Pre[2] = api.MaxWeight + 1
	below := made(2, line{-1, at(0), at(1)})
	apart := made(4, line{1, at(0), at(1)}, line{1, at(2), at(3)})
	fed := made(3, line{1, at(0), at(2)}, line{2, at(2), at(2, 2)}, line{3, at(2), at(0)})
	nets := []api.Net{row(), fork(), stuck(), grows(), label, short, weight, below, apart, fed, {}, {Places: 1}, {Places: 2},
		{Places: -1}, {Places: math.MinInt}, {Places: api.MaxPlaces}, {Places: api.MaxPlaces + 1}, {Places: math.MaxInt}, {Trans: []api.Tran{{}}},
		{Places: 1, Trans: []api.Tran{{Pre: at(0), Post: at(9)}}}}
	came := map[api.Errno]int{}
	for _, n := range nets {
		for _, i := range append(farNumbers(), 0, 1, 2, 3, 15, 16) {
			for _, o := range append(farNumbers(), 0, 1, 2, 3, 15, 16) {
				err := shape.Wrong(n, i, o)
				if err == api.OK {
					continue
				}
				came[err]++
				for _, trace := range [][]int{nil, at(1, 2), at(0), at(9), times(1, api.MaxTrace+1)} {
					check(t, "wrong", n, i, o, trace, 0, err)
				}
			}
		}
	}
	if came[api.ErrRange] < 1000 || came[api.ErrForm] < 1000 {
		t.Errorf("%v came: too few to tell", came)
	}
}

const never = 1 << 30

// graph is what a net can do, with what it costs to go from each mark to each other one by the net alone.
type graph struct {
	space api.Space
	alone [][]int
}

// drawn finds the cheapest ways among all marks, mark by mark between them.
func drawn(n api.Net, i int) (graph, api.Errno) {
	s, err := reach.Graph(n, shape.Start(n, i), 300)
	if err != api.OK {
		return graph{}, err
	}
	g := graph{space: s}
	for a := range s.Marks {
		g.alone = append(g.alone, times(never, len(s.Marks)))
		g.alone[a][a] = 0
	}
	for _, x := range s.Arcs {
		g.alone[x.From][x.To] = min(g.alone[x.From][x.To], min(n.Trans[x.Tran].Label, 1))
	}
	for m := range s.Marks {
		for a := range s.Marks {
			for b := range s.Marks {
				g.alone[a][b] = min(g.alone[a][b], g.alone[a][m]+g.alone[m][b])
			}
		}
	}
	return g, api.OK
}

// between are the costs behind some moves of the net alone.
func (g graph) between(cost []int) []int {
	out := times(never, len(cost))
	for a := range cost {
		for b := range cost {
			out[b] = min(out[b], cost[a]+g.alone[a][b])
		}
	}
	return out
}

// told is what the promise says that it costs, label by label of the trace.
func told(n api.Net, i, o int, trace []int) (int, api.Errno) {
	if err := shape.Wrong(n, i, o); err != api.OK {
		return 0, err
	}
	g, err := drawn(n, i)
	if err != api.OK {
		return 0, err
	}
	if len(trace) > 60 {
		return 0, api.ErrRange
	}
	cost := times(never, len(g.space.Marks))
	cost[0] = 0
	cost = g.between(cost)
	for _, label := range trace {
		next := slices.Clone(cost)
		for m := range next {
			next[m]++
		}
		for _, x := range g.space.Arcs {
			if label != 0 && n.Trans[x.Tran].Label == label {
				next[x.To] = min(next[x.To], cost[x.From])
			}
		}
		cost = g.between(next)
	}
	for m, tokens := range g.space.Marks {
		if slices.Equal(tokens, shape.Start(n, o)) {
			return cost[m], api.OK
		}
	}
	return 0, api.ErrNone
}

// many makes nets of two to seven places, most of them with all they have on ways from one place to another one.
func many(count int, each func(n api.Net, i, o int, next func(below int) int)) {
	seed := uint32(21)
	next := func(below int) int {
		seed = seed*1664525 + 1013904223
		return int(seed>>8) % below
	}
	for range count {
		places := 2 + next(6)
		order := make([]int, places)
		for k := range order {
			order[k] = k
		}
		for k := range order {
			j := next(k + 1)
			order[k], order[j] = order[j], order[k]
		}
		labels, named := 1+next(5), next(4) == 0
		most := 1 + next(4)/3*next(3)
		n := made(places)
		for k := range places - 1 + next(6) {
			x := api.Tran{Label: next(labels + 1), Pre: make([]int, places), Post: make([]int, places)}
			if named {
				x.Label = 1 + k
			}
			if next(4) == 0 {
				x.Pre[order[next(places-1)]] = next(most + 1)
			}
			if next(4) == 0 {
				x.Post[order[1+next(places-1)]] = next(most + 1)
			}
			from, to := k, k+1
			if k >= places-1 {
				from, to = next(places-1), 1+next(places-1)
			}
			x.Pre[order[from]], x.Post[order[to]] = 1, 1
			n.Trans = append(n.Trans, x)
		}
		each(n, order[0], order[places-1], next)
	}
}

// someTrace goes along with what can be done now, with a label here and there that lacks, or that does not fit.
func someTrace(n api.Net, i int, next func(below int) int, count int) []int {
	var trace []int
	m := shape.Start(n, i)
	for len(trace) < count {
		able, _ := net.Enabled(n, m)
		if len(able) == 0 || next(6) == 0 {
			trace = append(trace, next(6))
			continue
		}
		k := able[next(len(able))]
		if after, err := net.Fire(n, m, k); err == api.OK {
			m = after
		}
		if n.Trans[k].Label != 0 && next(8) > 0 {
			trace = append(trace, n.Trans[k].Label)
		} else if next(8) == 0 {
			break
		}
	}
	return trace
}

func TestManyNets(t *testing.T) {
	came := map[api.Errno]int{}
	costs := map[int]int{}
	many(6000, func(n api.Net, i, o int, next func(below int) int) {
		count := next(8)
		if next(4) == 0 {
			count = next(api.MaxTrace + 3)
		}
		trace := someTrace(n, i, next, count)
		if next(40) == 0 {
			i, o = o, i
		}
		if err := shape.Wrong(n, i, o); err == api.OK {
			// The oracle takes long for many marks, and a few of these are enough.
			if _, e := reach.Graph(n, shape.Start(n, i), 40); e == api.ErrFull && next(10) > 0 {
				return
			}
		}
		cost, err := told(n, i, o, trace)
		check(t, "as it is told", n, i, o, trace, cost, err)
		came[err]++
		if err == api.OK {
			costs[min(cost, 4)]++
		}
	})
	for _, err := range []api.Errno{api.OK, api.ErrForm, api.ErrRange, api.ErrFull, api.ErrNone} {
		if came[err] < 10 {
			t.Errorf("%d came %d times: too few to tell", err, came[err])
		}
	}
	for cost := range 5 {
		if costs[cost] < 100 {
			t.Errorf("%d cost %d: too few to tell", costs[cost], cost)
		}
	}
}

// apart is how many labels must be put in, or left out, to make b of a.
func apart(a, b []int) int {
	if len(a) == 0 || len(b) == 0 {
		return len(a) + len(b)
	}
	if a[0] == b[0] {
		return apart(a[1:], b[1:])
	}
	return 1 + min(apart(a[1:], b), apart(a, b[1:]))
}

// No word is nearer: what it costs is how far the nearest word is from the trace.
func TestNearestWord(t *testing.T) {
	told := 0
	many(6000, func(n api.Net, i, o int, next func(below int) int) {
		words, err := tongue.Words(n, i, o, 7)
		if err != api.OK || len(words) == 0 || len(words) > 50 {
			return
		}
		trace := someTrace(n, i, next, next(6))
		_, cost, err := Align(n, i, o, trace)
		nearest := never
		for _, w := range words {
			nearest = min(nearest, apart(trace, w))
		}
		// What is longer than the words that are listed is farther than this.
		if nearest > 8-len(trace) {
			return
		}
		told++
		if err != api.OK || cost != nearest {
			t.Errorf("%v beside %v costs %d, %d, and the nearest word is %d away", trace, n, cost, err, nearest)
		}
	})
	if told < 1000 {
		t.Errorf("%d told: too few", told)
	}
}

// What is a word costs nothing, and nothing else does; and what is fit for replay fits just then.
func TestWhatFits(t *testing.T) {
	fits, other, played := 0, 0, 0
	many(6000, func(n api.Net, i, o int, next func(below int) int) {
		trace := someTrace(n, i, next, next(9))
		_, cost, err := Align(n, i, o, trace)
		if err != api.OK {
			return
		}
		has, e := tongue.Has(n, i, o, trace)
		if e != api.OK || has != (cost == 0) {
			t.Errorf("%v beside %v costs %d, and a word: %v, %d", trace, n, cost, has, e)
		}
		if r, e := replay.Replay(n, i, o, trace); e == api.OK {
			played++
			if (cost == 0) != (r.Lacked == 0 && r.Left == 0) {
				t.Errorf("%v beside %v costs %d, and replayed: %+v", trace, n, cost, r)
			}
		}
		least, e := tongue.Least(n, i, o)
		if _, none, _ := Align(n, i, o, nil); e != api.OK || none != least {
			t.Errorf("nothing beside %v costs %d, and the shortest word has %d, %d", n, none, least, e)
		}
		if has {
			fits++
		} else {
			other++
		}
	})
	if fits < 300 || other < 300 || played < 100 {
		t.Errorf("%d fit, %d do not, %d were replayed: too few to tell", fits, other, played)
	}
}

// Words of blocks cost nothing on the net that is built of them.
func TestBlocks(t *testing.T) {
	step := func(label int) api.Block { return api.Block{Kind: api.Step, Label: label} }
	both := api.Block{Kind: api.Both, Kids: []api.Block{step(2), step(3)}}
	again := api.Block{Kind: api.Loop, Kids: []api.Block{both, step(4)}}
	b := api.Block{Kind: api.Seq, Kids: []api.Block{step(1), again}}
	n, err := grow.Grow(b)
	if err != api.OK {
		t.Fatal(err)
	}
	fits := 0
	for k := range 4 * 4 * 4 * 4 * 4 * 4 {
		trace := at(1+k%4, 1+k/4%4, 1+k/16%4, 1+k/64%4, 1+k/256%4, 1+k/1024)
		for _, w := range [][]int{trace, trace[:3]} {
			_, cost, err := Align(n, 0, 1, w)
			if has := blocks.Has(b, w); err != api.OK || has != (cost == 0) {
				t.Errorf("%v costs %d, %d, and a word: %v", w, cost, err, has)
			} else if has {
				fits++
			}
		}
	}
	if fits < 6 {
		t.Errorf("%d fit: too few", fits)
	}
}

// Which of several moves are told hangs on the arguments alone: neither on calls ahead of it, nor on the order of a map.
func TestTheSameAgain(t *testing.T) {
	for _, n := range []api.Net{row(), fork(), ring(), twins(), idle(), maybe(), counted(7)} {
		for _, trace := range [][]int{nil, at(1, 3), at(2, 1), at(1, 2, 1, 2), at(3, 9, 4), at(1, 1, 2, 2, 3, 3)} {
			first, _, _ := Align(n, 0, 1, trace)
			for range 5 {
				_, _, _ = Align(ring(), 0, 1, at(2, 2, 2))
				if again, _, _ := Align(n, 0, 1, trace); !slices.Equal(again, first) {
					t.Errorf("%v beside %v: %v, and again: %v", trace, n, first, again)
				}
			}
		}
	}
}

// What was handed in is only read, and neither it nor what was answered is kept.
func TestOnlyRead(t *testing.T) {
	for _, trace := range [][]int{nil, at(1, 2), at(2, 2, 1), at(1, 9), times(2, api.MaxTrace+1)} {
		for _, o := range []int{1, 2, 7} {
			n, in := row(), slices.Clone(trace)
			cost, err := told(row(), 0, o, trace)
			check(t, "once", n, 0, o, in, cost, err)
			if !reflect.DeepEqual(n, row()) || !slices.Equal(in, trace) {
				t.Errorf("what was handed in was changed: %v, %v", n, in)
			}
			moves, _, _ := Align(n, 0, o, in)
			was := slices.Clone(moves)
			clear(in)
			clear(n.Trans)
			if !slices.Equal(moves, was) {
				t.Errorf("what was answered was changed: %v, not %v", moves, was)
			}
			clear(moves)
			check(t, "once more", row(), 0, o, trace, cost, err)
		}
	}
}

// Behind the end of a list there may be spare room: it is neither looked at nor changed.
func TestSpareRoom(t *testing.T) {
	spare := func(l ...int) []int { return append(l, 1, 2, -77)[:len(l)] }
	n := row()
	for k, x := range n.Trans {
		n.Trans[k].Pre, n.Trans[k].Post = spare(x.Pre...), spare(x.Post...)
	}
	trans := append(n.Trans, api.Tran{Label: 3, Pre: at(1, 0, 0), Post: at(0, 1, 0)})
	n.Trans = trans[:2]
	trace := spare(1, 2)
	check(t, "spare room", n, 0, 1, trace, 0, api.OK)
	check(t, "nothing but spare room", n, 0, 1, trace[:0], 2, api.OK)
	check(t, "a label in spare room", n, 0, 1, at(3), 3, api.OK)
	full := times(1, api.MaxTrace+1)
	check(t, "a long trace with spare room", n, 0, 1, full[:api.MaxTrace], api.MaxTrace, api.OK)
	for k, l := range [][]int{trace, n.Trans[0].Pre, n.Trans[0].Post, n.Trans[1].Pre, n.Trans[1].Post} {
		if !slices.Equal(l[:len(l)+3][len(l):], at(1, 2, -77)) {
			t.Errorf("list %d: the room behind it was changed: %v", k, l[:len(l)+3])
		}
	}
	if !reflect.DeepEqual(trans[2], api.Tran{Label: 3, Pre: at(1, 0, 0), Post: at(0, 1, 0)}) {
		t.Errorf("the room behind the transitions was changed: %v", trans[2])
	}
}

// nil and empty lists are the same, and one list may be handed in for several things.
func TestListsAlike(t *testing.T) {
	for _, trace := range [][]int{nil, {}} {
		check(t, "nothing was seen", row(), 0, 1, trace, 2, api.OK)
		check(t, "nothing is there", api.Net{}, 0, 1, trace, 0, api.ErrForm)
		check(t, "nothing is there", api.Net{Places: 2, Trans: []api.Tran{}}, 0, 1, trace, 0, api.ErrForm)
		check(t, "nothing is told", api.Net{Places: 2, Trans: []api.Tran{{Label: 1, Pre: trace, Post: trace}}}, 0, 1, trace, 0, api.ErrRange)
	}
	l := at(0, 0, 1)
	n := api.Net{Places: 3, Trans: []api.Tran{{Label: 1, Pre: at(1, 0, 0), Post: l}, {Label: 2, Pre: l, Post: at(0, 1, 0)}}}
	check(t, "one list", n, 0, 1, at(1, 2), 0, api.OK)
	check(t, "the trace is one of the net's lists", n, 0, 1, l, 3, api.OK)
	if !slices.Equal(l, at(0, 0, 1)) {
		t.Errorf("the list was changed: %v", l)
	}
}

func ExampleAlign() {
	n := api.Net{Places: 3, Trans: []api.Tran{
		{Label: 1, Pre: []int{1, 0, 0}, Post: []int{0, 1, 0}},
		{Label: 2, Pre: []int{0, 1, 0}, Post: []int{0, 0, 1}},
	}}
	moves, cost, err := Align(n, 0, 2, []int{2, 5})
	for _, m := range moves {
		fmt.Printf("%+v\n", m)
	}
	fmt.Println(cost, err)
	// Output:
	// {Kind:3 Label:1 Tran:0}
	// {Kind:1 Label:2 Tran:1}
	// {Kind:2 Label:5 Tran:0}
	// 2 0
}
