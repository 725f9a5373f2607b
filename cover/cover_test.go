package cover

import (
	"fmt"
	"math"
	"reflect"
	"slices"
	"testing"

	"tokenhall/api"
	"tokenhall/net"
	"tokenhall/reach"
)

const (
	full  = api.MaxTokens
	limit = api.MaxStates
	many  = api.Many
)

// there goes from place 0 to place 1, and back, one for one.
func there() api.Net {
	return api.Net{Places: 2, Trans: []api.Tran{
		{Label: 1, Pre: []int{1, 0}, Post: []int{0, 1}},
		{Label: 2, Pre: []int{0, 1}, Post: []int{1, 0}},
	}}
}

// fall loses its tokens one by one: from k tokens on there are k + 1 knots.
func fall() api.Net {
	return api.Net{Places: 1, Trans: []api.Tran{{Pre: []int{1}, Post: []int{0}}}}
}

// source puts a token wherever it stands, as often as one likes.
func source() api.Net {
	return api.Net{Places: 1, Trans: []api.Tran{{Pre: []int{0}, Post: []int{1}}}}
}

// beside leaves the token that it takes, and puts another one beside it.
func beside() api.Net {
	return api.Net{Places: 2, Trans: []api.Tran{{Pre: []int{1, 0}, Post: []int{1, 1}}}}
}

// farFirst outgrows knot 0 alone; only by what it has then it outgrows the knot between.
func farFirst() api.Net {
	return api.Net{Places: 2, Trans: []api.Tran{
		{Pre: []int{0, 1}, Post: []int{2, 0}},
		{Pre: []int{1, 0}, Post: []int{0, 1}},
	}}
}

// nearFirst outgrows the knot that it comes of alone; only by what it has then it outgrows knot 0.
func nearFirst() api.Net {
	return api.Net{Places: 3, Trans: []api.Tran{
		{Pre: []int{2, 0, 0}, Post: []int{0, 1, 0}},
		{Pre: []int{0, 1, 1}, Post: []int{1, 1, 1}},
	}}
}

// twins has two transitions that do the same, and one that does nothing.
func twins() api.Net {
	return api.Net{Places: 2, Trans: []api.Tran{
		{Pre: []int{1, 0}, Post: []int{0, 1}},
		{Pre: []int{1, 0}, Post: []int{1, 0}},
		{Pre: []int{1, 0}, Post: []int{0, 1}},
	}}
}

// changed is there with one thing that is different.
func changed(change func(n *api.Net)) api.Net {
	n := there()
	change(&n)
	return n
}

// wrong are nets that are wrong, each for one thing alone.
func wrong() map[string]api.Net {
	return map[string]api.Net{
		"-1 places":               {Places: -1},
		"the fewest places":       {Places: math.MinInt},
		"one place too many":      {Places: api.MaxPlaces + 1},
		"the most places":         {Places: math.MaxInt},
		"one transition too many": {Trans: make([]api.Tran, api.MaxTrans+1)},
		"label -1":                changed(func(n *api.Net) { n.Trans[0].Label = -1 }),
		"label too large":         changed(func(n *api.Net) { n.Trans[1].Label = api.MaxLabel + 1 }),
		"Pre of nothing":          changed(func(n *api.Net) { n.Trans[0].Pre = nil }),
		"Post of nothing":         changed(func(n *api.Net) { n.Trans[1].Post = nil }),
		"Pre too long":            changed(func(n *api.Net) { n.Trans[1].Pre = []int{0, 1, 0} }),
		"Post too short":          changed(func(n *api.Net) { n.Trans[0].Post = []int{0} }),
		"Pre that takes Many":     changed(func(n *api.Net) { n.Trans[1].Pre[0] = many }),
		"Post that puts Many":     changed(func(n *api.Net) { n.Trans[0].Post[0] = many }),
		"Pre too large":           changed(func(n *api.Net) { n.Trans[0].Pre[1] = api.MaxWeight + 1 }),
		"Post too large":          changed(func(n *api.Net) { n.Trans[1].Post[1] = math.MaxInt }),
	}
}

// sameKnots holds nil and empty lists to be the same.
func sameKnots(a, b []api.Knot) bool {
	return slices.EqualFunc(a, b, func(x, y api.Knot) bool {
		return x.Up == y.Up && x.Tran == y.Tran && slices.Equal(x.Mark, y.Mark)
	})
}

func first(m ...int) api.Knot {
	return api.Knot{Up: -1, Tran: -1, Mark: m}
}

func of(up, tran int, m ...int) api.Knot {
	return api.Knot{Up: up, Tran: tran, Mark: m}
}

func TestTree(t *testing.T) {
	for _, c := range []struct {
		n    api.Net
		m    []int
		want []api.Knot
		what string
	}{
		{api.Net{}, nil, []api.Knot{first()}, "nothing"},
		{api.Net{}, []int{}, []api.Knot{first()}, "nothing, empty"},
		{api.Net{Places: 2}, []int{3, full}, []api.Knot{first(3, full)}, "places alone"},
		{api.Net{Trans: make([]api.Tran, 2)}, nil, []api.Knot{first(), of(0, 0), of(0, 1)}, "transitions alone: the same marks"},
		{there(), []int{0, 0}, []api.Knot{first(0, 0)}, "nothing can fire"},
		{there(), []int{1, 0}, []api.Knot{first(1, 0), of(0, 0, 0, 1), of(1, 1, 1, 0)}, "there and back: nothing comes of what was"},
		{there(), []int{2, 0}, []api.Knot{
			first(2, 0), of(0, 0, 1, 1), of(1, 0, 0, 2), of(1, 1, 2, 0), of(2, 1, 1, 1),
		}, "knot by knot, transitions rise at each; the same mark counts also if it is further up"},
		{there(), []int{1, 1}, []api.Knot{
			first(1, 1), of(0, 0, 0, 2), of(0, 1, 2, 0), of(1, 1, 1, 1), of(2, 0, 1, 1),
		}, "the same marks are knots of their own beside each other"},
		{twins(), []int{2, 0}, []api.Knot{
			first(2, 0), of(0, 0, 1, 1), of(0, 1, 2, 0), of(0, 2, 1, 1),
			of(1, 0, 0, 2), of(1, 1, 1, 1), of(1, 2, 0, 2), of(3, 0, 0, 2), of(3, 1, 1, 1), of(3, 2, 0, 2),
		}, "all firings are knots, also of those marks that are elsewhere"},
		{beside(), []int{1, 0}, []api.Knot{first(1, 0), of(0, 0, 1, many), of(1, 0, 1, many)}, "the document's fifth example"},
		{beside(), []int{3, 7}, []api.Knot{first(3, 7), of(0, 0, 3, many), of(1, 0, 3, many)}, "wherever it begins"},
		{source(), []int{0}, []api.Knot{first(0), of(0, 0, many), of(1, 0, many)}, "out of nothing"},
		{source(), []int{full}, []api.Knot{first(full), of(0, 0, many), of(1, 0, many)}, "full, and Many behind it"},
		{fall(), []int{2}, []api.Knot{first(2), of(0, 0, 1), of(1, 0, 0)}, "fewer and fewer"},
		{farFirst(), []int{0, 1}, []api.Knot{
			first(0, 1), of(0, 0, 2, 0), of(1, 1, many, many), of(2, 0, many, many), of(2, 1, many, many),
		}, "again and again: from above down"},
		{nearFirst(), []int{2, 0, 1}, []api.Knot{
			first(2, 0, 1), of(0, 0, 0, 1, 1), of(1, 1, many, many, 1), of(2, 0, many, many, 1), of(2, 1, many, many, 1),
		}, "again and again: from below up"},
		{api.Net{Places: 2, Trans: []api.Tran{
			{Pre: []int{0, 0}, Post: []int{1, 0}},
			{Pre: []int{9, 0}, Post: []int{0, 1}},
		}}, []int{0, 0}, []api.Knot{
			first(0, 0), of(0, 0, many, 0), of(1, 0, many, 0), of(1, 1, many, many), of(3, 0, many, many), of(3, 1, many, many),
		}, "Many covers all that is taken, and less is Many"},
		{api.Net{Places: 3, Trans: []api.Tran{
			{Pre: []int{0, 0, 1}, Post: []int{9, 0, 1}},
			{Pre: []int{2, 1, 0}, Post: []int{0, 0, 0}},
		}}, []int{0, 1, 1}, []api.Knot{
			first(0, 1, 1), of(0, 0, many, 1, 1), of(1, 0, many, 1, 1), of(1, 1, many, 0, 1), of(3, 0, many, 0, 1),
		}, "beside Many a number falls"},
		{api.Net{Places: 2, Trans: []api.Tran{
			{Pre: []int{1, 0}, Post: []int{0, 2}},
		}}, []int{2, 0}, []api.Knot{first(2, 0), of(0, 0, 1, 2), of(1, 0, 0, 4)}, "more in all, but fewer somewhere: no Many"},
		{api.Net{Places: 1, Trans: []api.Tran{
			{Pre: []int{1}, Post: []int{1}},
		}}, []int{4}, []api.Knot{first(4), of(0, 0, 4)}, "the same is not more"},
		{api.Net{Places: 2, Trans: []api.Tran{
			{Pre: []int{1, 0}, Post: []int{0, 9}},
		}}, []int{2, full}, []api.Knot{first(2, full), of(0, 0, 1, full+9), of(1, 0, 0, full+18)}, "more than MaxTokens may be there"},
		{api.Net{Places: 1, Trans: []api.Tran{
			{Pre: []int{9}, Post: []int{0}}, {Pre: []int{8}, Post: []int{0}},
		}}, []int{8}, []api.Knot{first(8), of(0, 1, 0)}, "just enough to take, and one too few"},
	} {
		got, err := Tree(c.n, c.m, limit)
		if !sameKnots(got, c.want) || err != api.OK {
			t.Errorf("%s: %v, %d, not %v", c.what, got, err, c.want)
		}
		knots := len(c.want)
		if got, err := Tree(c.n, c.m, knots); !sameKnots(got, c.want) || err != api.OK {
			t.Errorf("%s, with just enough room: %v, %d", c.what, got, err)
		}
		if knots == 1 {
			continue
		}
		if got, err := Tree(c.n, c.m, knots-1); got != nil || err != api.ErrFull {
			t.Errorf("%s, with room for one fewer: %v, %d", c.what, got, err)
		}
	}
}

func TestLimit(t *testing.T) {
	for _, c := range []struct {
		n    api.Net
		m    []int
		want []int // place by place
		what string
	}{
		{api.Net{}, nil, nil, "nothing"},
		{api.Net{Places: 3}, []int{3, 0, full}, []int{3, 0, full}, "places alone"},
		{there(), []int{0, 0}, []int{0, 0}, "no tokens"},
		{there(), []int{2, 0}, []int{2, 2}, "there and back"},
		{there(), []int{2, 1}, []int{3, 3}, "all at one place"},
		{fall(), []int{7}, []int{7}, "the most is at the beginning"},
		{source(), []int{0}, []int{many}, "no end"},
		{source(), []int{full}, []int{many}, "no end, and full"},
		{beside(), []int{1, 0}, []int{1, many}, "the document's fifth example"},
		{beside(), []int{0, 4}, []int{0, 4}, "it never fires"},
		{farFirst(), []int{0, 1}, []int{many, many}, "again and again"},
		{nearFirst(), []int{2, 0, 1}, []int{many, many, 1}, "again and again, and a place that keeps what it has"},
		{api.Net{Places: 2, Trans: []api.Tran{{Pre: []int{1, 0}, Post: []int{0, 9}}}}, []int{2, full}, []int{2, full + 18}, "more than MaxTokens"},
		{api.Net{Places: 2, Trans: []api.Tran{
			{Pre: []int{1, 0}, Post: []int{0, 9}}, {Pre: []int{0, 1}, Post: []int{0, 0}},
		}}, []int{1, 0}, []int{1, 9}, "the most is in the midst"},
		{api.Net{Places: 2, Trans: []api.Tran{
			{Pre: []int{1, 0}, Post: []int{1, 1}}, {Pre: []int{1, 0}, Post: []int{0, 0}},
		}}, []int{1, 5}, []int{1, many}, "Many is more than numbers, whichever comes later"},
	} {
		for p, want := range c.want {
			if got, err := Limit(c.n, c.m, p, limit); got != want || err != api.OK {
				t.Errorf("%s, place %d: %d, %d, not %d", c.what, p, got, err, want)
			}
		}
		for _, p := range []int{-1, c.n.Places, c.n.Places + 1, api.MaxPlaces, math.MinInt, math.MaxInt} {
			if got, err := Limit(c.n, c.m, p, limit); got != 0 || err != api.ErrNone {
				t.Errorf("%s, place %d, that is none: %d, %d", c.what, p, got, err)
			}
		}
	}
}

// widest has all places and all transitions that may be: each of 15 moves a token on, the rest take more than there is.
func widest() api.Net {
	n := api.Net{Places: api.MaxPlaces}
	for t := range api.MaxTrans {
		tran := api.Tran{Label: api.MaxLabel, Pre: make([]int, n.Places), Post: make([]int, n.Places)}
		tran.Pre[t%n.Places] = api.MaxWeight
		if t+1 < n.Places {
			tran.Pre[t], tran.Post[t+1] = 1, 1
		}
		n.Trans = append(n.Trans, tran)
	}
	return n
}

func TestTheWidestNet(t *testing.T) {
	n := widest()
	m := make([]int, n.Places)
	m[0] = 1
	got, err := Tree(n, m, limit)
	if err != api.OK || len(got) != n.Places {
		t.Fatalf("%d knots, %d", len(got), err)
	}
	for i, k := range got {
		want := make([]int, n.Places)
		want[i] = 1
		if k.Up != i-1 || k.Tran != i-1 || !slices.Equal(k.Mark, want) {
			t.Errorf("knot %d is %v", i, k)
		}
		if most, err := Limit(n, m, i, limit); most != 1 || err != api.OK {
			t.Errorf("place %d has at most %d, %d", i, most, err)
		}
	}
	// One that puts a token at the last place, whatever there is, brings Many there alone.
	last := api.Net{Places: n.Places, Trans: []api.Tran{{Pre: make([]int, n.Places), Post: make([]int, n.Places)}}}
	last.Trans[0].Post[n.Places-1] = 1
	for p := range n.Places {
		want := m[p]
		if p == n.Places-1 {
			want = many
		}
		if most, err := Limit(last, m, p, limit); most != want || err != api.OK {
			t.Errorf("place %d has at most %d, %d, not %d", p, most, err, want)
		}
	}
}

// both asks both calls, which must tell the same error, and nothing beside it.
func both(t *testing.T, what string, n api.Net, m []int, most int, want api.Errno) {
	t.Helper()
	knots, err := Tree(n, m, most)
	if err != want || err != api.OK && knots != nil {
		t.Errorf("%s, most %d: Tree tells %v, %d, not %d", what, most, knots, err, want)
	}
	for _, p := range []int{0, 1, -1, 2, 99, math.MinInt, math.MaxInt} {
		top, err := Limit(n, m, p, most)
		if err != api.OK && top != 0 {
			t.Errorf("%s, most %d, place %d: Limit tells %d beside %d", what, most, p, top, err)
		}
		if err == api.ErrNone && want == api.OK {
			err = api.OK
		}
		if err != want {
			t.Errorf("%s, most %d, place %d: Limit tells %d, not %d", what, most, p, err, want)
		}
	}
}

func TestRoom(t *testing.T) {
	for _, c := range []struct {
		n    api.Net
		m    []int
		most int
		want api.Errno
		what string
	}{
		{api.Net{}, nil, 1, api.OK, "one knot"},
		{there(), []int{0, 0}, 1, api.OK, "one knot of two places"},
		{there(), []int{1, 0}, 2, api.ErrFull, "a knot that is as one above it counts as well"},
		{there(), []int{1, 0}, 3, api.OK, "three knots"},
		{fall(), []int{limit - 1}, limit, api.OK, "as many as may be"},
		{fall(), []int{limit - 1}, limit - 1, api.ErrFull, "one fewer than there are"},
		{fall(), []int{limit}, limit, api.ErrFull, "one more than may be"},
		{fall(), []int{full}, limit, api.ErrFull, "many more"},
		{source(), []int{full}, 1, api.ErrFull, "no end, and no room"},
		{source(), []int{full}, 3, api.OK, "no end, and enough room"},
		{there(), []int{full, full}, limit, api.ErrFull, "too many knots of full places"},
	} {
		both(t, c.what, c.n, c.m, c.most, c.want)
	}
}

func TestRange(t *testing.T) {
	outside := []int{0, -1, limit + 1, math.MinInt, math.MaxInt}
	for _, most := range outside {
		both(t, "nothing", api.Net{}, nil, most, api.ErrRange)
		both(t, "ordinary", there(), []int{2, 0}, most, api.ErrRange)
		both(t, "no end", source(), []int{full}, most, api.ErrRange)
	}
	for _, most := range append(outside, 1, 2, limit) {
		for what, n := range wrong() {
			for _, m := range [][]int{nil, {}, {0, 0}, {1, 0}, {-1, 0}, make([]int, 17)} {
				both(t, what, n, m, most, api.ErrRange)
			}
		}
		for _, m := range [][]int{nil, {}, {2}, {2, 0, 0}, {many, 2}, {2, many}, {full + 1, 0}, {0, full + 1}, {math.MinInt, 0}, {0, math.MaxInt}} {
			both(t, fmt.Sprintf("mark %v", m), there(), m, most, api.ErrRange)
		}
		both(t, "a mark of nothing", api.Net{}, []int{0}, most, api.ErrRange)
	}
}

// some are nets of two places, with all transitions of small weights two by two.
func some(check func(n api.Net)) {
	var trans []api.Tran
	for i := range 81 {
		trans = append(trans, api.Tran{Pre: []int{i % 3, i / 3 % 3}, Post: []int{i / 9 % 3, i / 27}})
	}
	for i := range trans {
		for j := i % 5; j < len(trans); j += 5 {
			check(api.Net{Places: 2, Trans: []api.Tran{trans[i], trans[j]}})
		}
	}
}

// told is what the promise tells, of marks whose Many is the infinite float: that is more than any number, so much less or more, without a rule.
func told(n api.Net, m []int, most int) ([]api.Knot, api.Errno) {
	type knot struct {
		up, tran int
		line     [][]float64 // the marks from knot 0 to this one
	}
	knots := []knot{{-1, -1, [][]float64{floats(m)}}}
	for i := 0; i < len(knots); i++ {
		line := knots[i].line
		now, above := line[len(line)-1], line[:len(line)-1]
		if slices.ContainsFunc(above, func(a []float64) bool { return slices.Equal(a, now) }) {
			continue
		}
		for t, tran := range n.Trans {
			next := slices.Clone(now)
			able := true
			for p := range next {
				able = able && next[p] >= float64(tran.Pre[p])
				next[p] += float64(tran.Post[p]) - float64(tran.Pre[p])
			}
			if !able {
				continue
			}
			grown(next, line)
			knots = append(knots, knot{i, t, append(slices.Clone(line), next)})
			if len(knots) > most {
				return nil, api.ErrFull
			}
		}
	}
	var out []api.Knot
	for _, k := range knots {
		out = append(out, of(k.up, k.tran, ints(k.line[len(k.line)-1])...))
	}
	return out, api.OK
}

// grown goes down the line as often as there may be something new, from its beginning on.
func grown(m []float64, line [][]float64) {
	for range len(m) + 1 {
		for _, low := range line {
			under := true
			for p := range m {
				under = under && low[p] <= m[p]
			}
			for p := range m {
				if under && low[p] < m[p] {
					m[p] = math.Inf(1)
				}
			}
		}
	}
}

func floats(m []int) []float64 {
	var out []float64
	for _, x := range m {
		out = append(out, float64(x))
	}
	return out
}

func ints(m []float64) []int {
	var out []int
	for _, x := range m {
		if math.IsInf(x, 1) {
			out = append(out, many)
		} else {
			out = append(out, int(x))
		}
	}
	return out
}

// Many nets against the promises' words.
func TestManyNets(t *testing.T) {
	trees, manys, fulls := 0, 0, 0
	some(func(n api.Net) {
		for _, m := range [][]int{{2, 1}, {0, 5}, {full, 1}} {
			want, wantErr := told(n, m, 40)
			got, err := Tree(n, m, 40)
			if !sameKnots(got, want) || err != wantErr {
				t.Fatalf("%v from %v on: %v, %d, not %v, %d", n, m, got, err, want, wantErr)
			}
			if err != api.OK {
				fulls++
				continue
			}
			trees++
			for p := range n.Places {
				top := -1.0
				for _, k := range want {
					top = max(top, infinite(k.Mark[p]))
				}
				if got, err := Limit(n, m, p, 40); infinite(got) != top || err != api.OK {
					t.Fatalf("%v from %v on: place %d has at most %d, %d, not %v", n, m, p, got, err, top)
				}
				if math.IsInf(top, 1) {
					manys++
				}
			}
		}
	})
	if trees < 100 || manys < 100 || fulls < 100 {
		t.Errorf("%d trees, %d places with Many, and %d too full: too few to tell", trees, manys, fulls)
	}
}

func infinite(x int) float64 {
	if x == many {
		return math.Inf(1)
	}
	return float64(x)
}

// Nothing rises above what covers it: without Many the knots' marks are all that are reached, with Many there is no end of them.
func TestKnotsCoverWhatIsReached(t *testing.T) {
	ends, rises := 0, 0
	some(func(n api.Net) {
		for _, m := range [][]int{{2, 1}, {0, 4}} {
			knots, err := Tree(n, m, limit)
			if err != api.OK {
				continue
			}
			space, err := reach.Graph(n, m, limit)
			if slices.ContainsFunc(knots, func(k api.Knot) bool { return slices.Contains(k.Mark, many) }) {
				rises++
				if err != api.ErrFull {
					t.Fatalf("%v from %v on: %v, but reached are %v", n, m, knots, space.Marks)
				}
				runsStayBelow(t, n, m, knots)
				continue
			}
			ends++
			found := map[[2]int]int{}
			for _, k := range knots {
				found[[2]int(k.Mark)]++
			}
			for _, x := range space.Marks {
				if found[[2]int(x)] == 0 {
					t.Fatalf("%v from %v on: %v is reached, and no knot of %v", n, m, x, knots)
				}
			}
			if err != api.OK || len(found) != len(space.Marks) {
				t.Fatalf("%v from %v on: %v, but reached are %v, %d", n, m, knots, space.Marks, err)
			}
		}
	})
	if ends < 100 || rises < 100 {
		t.Errorf("%d nets with an end, %d without: too few to tell", ends, rises)
	}
}

// runsStayBelow fires all runs of some length.
func runsStayBelow(t *testing.T, n api.Net, m []int, knots []api.Knot) {
	t.Helper()
	for i := range 1 << 7 {
		now := m
		for step := range 7 {
			next, err := net.Fire(n, now, i>>step&1)
			if err != api.OK {
				break
			}
			now = next
			if !slices.ContainsFunc(knots, func(k api.Knot) bool {
				return infinite(k.Mark[0]) >= float64(now[0]) && infinite(k.Mark[1]) >= float64(now[1])
			}) {
				t.Fatalf("%v from %v on: %v is below no knot of %v", n, m, now, knots)
			}
		}
	}
}

// Behind the end of a list there may be spare room: it is neither looked at nor changed.
func TestSpareRoom(t *testing.T) {
	pre, post, m := []int{1, 0, 99, 99}, []int{1, 1, -1, -1}, []int{2, 0, -5, -5}
	room := []api.Tran{{Label: 1, Pre: pre[:2], Post: post[:2]}, {Label: 99}}
	n := api.Net{Places: 2, Trans: room[:1]}
	if knots, err := Tree(n, m[:2], 3); !sameKnots(knots, []api.Knot{first(2, 0), of(0, 0, 2, many), of(1, 0, 2, many)}) || err != api.OK {
		t.Errorf("%v, %d", knots, err)
	}
	if top, err := Limit(n, m[:2], 1, 3); top != many || err != api.OK {
		t.Errorf("%d, %d", top, err)
	}
	for _, l := range []struct{ got, want []int }{
		{pre, []int{1, 0, 99, 99}}, {post, []int{1, 1, -1, -1}}, {m, []int{2, 0, -5, -5}},
	} {
		if !slices.Equal(l.got, l.want) {
			t.Errorf("%v was changed to %v", l.want, l.got)
		}
	}
	if room[1].Label != 99 || room[1].Pre != nil || room[1].Post != nil {
		t.Error("the room behind the transitions was changed")
	}
}

// What is answered shares nothing with what was handed in, and no two lists of it share anything.
func TestAnswersAreNew(t *testing.T) {
	n, m := there(), []int{2, 0}
	knots, _ := Tree(n, m, limit)
	for i, k := range knots {
		for p := range k.Mark {
			k.Mark[p] = 10*i + p
		}
		_ = append(k.Mark, 99)
	}
	for i, k := range knots {
		if !slices.Equal(k.Mark, []int{10 * i, 10*i + 1}) {
			t.Errorf("two marks share memory: %v", knots)
		}
	}
	if !reflect.DeepEqual(n, there()) || !slices.Equal(m, []int{2, 0}) {
		t.Error("an answer shares memory with what was handed in")
	}
	again, _ := Tree(n, m, limit)
	m[0], n.Trans[0].Pre[0], n.Trans[0].Post[1] = 9, 9, 9
	want, _ := told(there(), []int{2, 0}, limit)
	if !sameKnots(again, want) {
		t.Errorf("again: %v", again)
	}
}

func ExampleTree() {
	n := api.Net{Places: 2, Trans: []api.Tran{{Label: 1, Pre: []int{1, 0}, Post: []int{1, 1}}}}
	knots, err := Tree(n, []int{1, 0}, 10)
	fmt.Println(knots, err == api.OK)
	// Output: [{-1 -1 [1 0]} {0 0 [1 -1]} {1 0 [1 -1]}] true
}

func ExampleLimit() {
	n := api.Net{Places: 2, Trans: []api.Tran{{Label: 1, Pre: []int{1, 0}, Post: []int{1, 1}}}}
	one, err := Limit(n, []int{1, 0}, 0, 10)
	fmt.Println(one, err == api.OK)
	top, err := Limit(n, []int{1, 0}, 1, 10)
	fmt.Println(top == api.Many, err == api.OK)
	// Output:
	// 1 true
	// true true
}
