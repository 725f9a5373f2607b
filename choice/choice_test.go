package choice

import (
	"fmt"
	"math"
	"reflect"
	"slices"
	"testing"

	"tokenhall/api"
	"tokenhall/grow"
	"tokenhall/net"
)

// taking is a net whose transitions take these, and put one token at each place.
func taking(places int, pres ...[]int) api.Net {
	n := api.Net{Places: places}
	for i, pre := range pres {
		n.Trans = append(n.Trans, api.Tran{Label: i % (api.MaxLabel + 1), Pre: pre, Post: slices.Repeat([]int{1}, places)})
	}
	return n
}

// at is one token at each of these places, of as many as there may be.
func at(places ...int) []int {
	pre := make([]int, api.MaxPlaces)
	for _, p := range places {
		pre[p]++
	}
	return pre
}

// chain has transitions each of which shares a place with the next one alone.
func chain() api.Net {
	var pres [][]int
	for p := range api.MaxPlaces - 1 {
		pres = append(pres, at(p, p+1))
	}
	return taking(api.MaxPlaces, pres...)
}

// bridges has 15 transitions that are linked by those behind them alone, last ones first.
func bridges() api.Net {
	var pres [][]int
	for p := range api.MaxPlaces - 1 {
		pres = append(pres, at(p))
	}
	for p := range api.MaxTrans - len(pres) {
		pres = append(pres, at(13-p, 14-p))
	}
	return taking(api.MaxPlaces, pres...)
}

// alike has as many transitions as there may be, all of which take the same.
func alike(pre []int) api.Net {
	return taking(len(pre), slices.Repeat([][]int{pre}, api.MaxTrans)...)
}

// upTo is the numbers from 0 to many - 1.
func upTo(many int) []int {
	var l []int
	for i := range many {
		l = append(l, i)
	}
	return l
}

// alone is parts of one for the numbers from 0 to many - 1.
func alone(many int) [][]int {
	var parts [][]int
	for i := range many {
		parts = append(parts, []int{i})
	}
	return parts
}

// same holds nil and empty lists to be the same.
func same(a, b [][]int) bool {
	return slices.EqualFunc(a, b, slices.Equal[[]int])
}

func TestAnswers(t *testing.T) {
	for _, c := range []struct {
		n    api.Net
		free bool
		want [][]int
		what string
	}{
		{api.Net{}, true, nil, "nothing"},
		{api.Net{Trans: []api.Tran{}}, true, nil, "nothing, empty"},
		{api.Net{Places: api.MaxPlaces}, true, nil, "places alone"},
		{api.Net{Trans: make([]api.Tran, 3)}, true, alone(3), "transitions alone"},
		{api.Net{Trans: []api.Tran{{Pre: []int{}, Post: []int{}}}}, true, alone(1), "one, with empty lists"},
		{taking(1, []int{1}), true, alone(1), "one"},
		{taking(1, []int{0}), true, alone(1), "one that takes nothing"},

		{taking(2, []int{1, 0}, []int{1, 0}), true, [][]int{{0, 1}}, "the document's fourteenth example"},
		{taking(2, []int{1, 0}, []int{0, 1}), true, alone(2), "what is put at one place is not shared"},
		{taking(2, []int{0, 0}, []int{0, 0}), true, alone(2), "the same Pre, and nothing in it"},
		{taking(2, []int{1, 1}, []int{0, 0}), true, alone(2), "beside one that takes nothing"},
		{taking(2, []int{9, 9}, []int{9, 9}), true, [][]int{{0, 1}}, "the same Pre of two places"},
		{taking(2, []int{1, 0}, []int{2, 0}), false, [][]int{{0, 1}}, "other weights at the place they share"},
		{taking(2, []int{2, 0}, []int{1, 0}), false, [][]int{{0, 1}}, "other weights, the greater one first"},
		{taking(2, []int{1, 0}, []int{1, 1}), false, [][]int{{0, 1}}, "the later one takes from a place more"},
		{taking(2, []int{1, 1}, []int{1, 0}), false, [][]int{{0, 1}}, "the first one takes from a place more"},
		{taking(2, []int{1, 1}, []int{0, 1}), false, [][]int{{0, 1}}, "they share the last place"},
		{taking(2, []int{1, 9}, []int{1, 8}), false, [][]int{{0, 1}}, "the same at one place, not at the other"},

		{taking(3, []int{1, 0, 0}, []int{0, 1, 0}, []int{1, 0, 0}), true, [][]int{{0, 2}, {1}}, "one between"},
		{taking(3, []int{1, 0, 0}, []int{0, 1, 0}, []int{0, 1, 0}, []int{1, 0, 0}), true, [][]int{{0, 3}, {1, 2}}, "one part within the other"},
		{taking(3, []int{1, 0, 0}, []int{0, 1, 0}, []int{1, 1, 0}), false, [][]int{{0, 1, 2}}, "a later one links two"},
		{taking(3, []int{1, 1, 0}, []int{1, 0, 0}, []int{0, 1, 0}), false, [][]int{{0, 1, 2}}, "the first one links two"},
		{taking(3, []int{1, 0, 0}, []int{1, 1, 0}, []int{0, 1, 0}), false, [][]int{{0, 1, 2}}, "the one between links two"},
		{taking(3, []int{1, 0, 0}, []int{0, 1, 0}, []int{0, 0, 1}, []int{0, 1, 1}), false, [][]int{{0}, {1, 2, 3}}, "one that is not linked is ahead"},
		{taking(3, []int{1, 0, 0}, []int{0, 1, 0}, []int{0, 0, 1}, []int{1, 0, 1}), false, [][]int{{0, 2, 3}, {1}}, "one that is not linked is between"},
		{taking(4, []int{0, 0, 1, 0}, []int{1, 0, 0, 0}, []int{0, 0, 0, 1}, []int{0, 1, 0, 0}, []int{0, 0, 1, 1}, []int{1, 1, 0, 0}), false,
			[][]int{{0, 2, 4}, {1, 3, 5}}, "two parts that are linked behind"},
		{taking(3, []int{1, 0, 0}, []int{1, 0, 0}, []int{0, 1, 0}, []int{0, 2, 0}), false, [][]int{{0, 1}, {2, 3}}, "the first part is free, the second one not"},
		{taking(3, []int{0, 1, 1}, []int{0, 0, 0}, []int{0, 1, 1}, []int{1, 0, 0}, []int{0, 1, 1}), true, [][]int{{0, 2, 4}, {1}, {3}}, "three that are free"},

		{alike(at(0)), true, [][]int{upTo(api.MaxTrans)}, "all take the first place"},
		{alike(at(15)), true, [][]int{upTo(api.MaxTrans)}, "all take the last place"},
		{alike(slices.Repeat([]int{api.MaxWeight}, api.MaxPlaces)), true, [][]int{upTo(api.MaxTrans)}, "all take all"},
		{alike(at()), true, alone(api.MaxTrans), "as many as may be take nothing"},
		{api.Net{Trans: make([]api.Tran, api.MaxTrans)}, true, alone(api.MaxTrans), "as many as may be, without places"},
		{chain(), false, [][]int{upTo(15)}, "from each to the next one"},
		{bridges(), false, [][]int{{0}, {1}, {2}, {3}, {4}, append([]int{5}, upTo(api.MaxTrans)[6:]...)}, "linked by the last ones"},
	} {
		if got := Free(c.n); got != c.free {
			t.Errorf("%s: free is %v", c.what, got)
		}
		if got := Clusters(c.n); !same(got, c.want) {
			t.Errorf("%s: %v, not %v", c.what, got, c.want)
		}
	}
}

// Neither labels nor what is put decide.
func TestPreAloneDecides(t *testing.T) {
	for _, label := range []int{0, 1, api.MaxLabel} {
		for _, weight := range []int{0, 1, api.MaxWeight} {
			n := api.Net{Places: 2, Trans: []api.Tran{
				{Label: label, Pre: []int{1, 0}, Post: []int{weight, 0}},
				{Label: 1, Pre: []int{1, 0}, Post: []int{0, weight}},
				{Label: label, Pre: []int{0, 1}, Post: []int{weight, 0}},
			}}
			if !Free(n) || !same(Clusters(n), [][]int{{0, 1}, {2}}) {
				t.Errorf("label %d, weight %d: %v, %v", label, weight, Free(n), Clusters(n))
			}
			n.Trans[2].Pre[0] = 1
			if Free(n) || !same(Clusters(n), [][]int{{0, 1, 2}}) {
				t.Errorf("label %d, weight %d, all linked: %v, %v", label, weight, Free(n), Clusters(n))
			}
		}
	}
}

// changed is a free net with one thing that is different.
func changed(change func(n *api.Net)) api.Net {
	n := taking(2, []int{1, 0}, []int{1, 0})
	change(&n)
	return n
}

func TestWrong(t *testing.T) {
	for what, n := range map[string]api.Net{
		"-1 places":               {Places: -1},
		"the fewest places":       {Places: math.MinInt},
		"one place too many":      {Places: api.MaxPlaces + 1},
		"the most places":         {Places: math.MaxInt},
		"too many places, told":   taking(api.MaxPlaces+1, make([]int, api.MaxPlaces+1)),
		"too many without places": {Trans: make([]api.Tran, api.MaxTrans+1)},
		"one too many":            taking(1, slices.Repeat([][]int{{1}}, api.MaxTrans+1)...),
		"far too many":            {Trans: make([]api.Tran, 100000)},
		"label -1":                changed(func(n *api.Net) { n.Trans[0].Label = -1 }),
		"label too large":         changed(func(n *api.Net) { n.Trans[1].Label = api.MaxLabel + 1 }),
		"one place too few":       changed(func(n *api.Net) { n.Places = 1 }),
		"a place more":            changed(func(n *api.Net) { n.Places = 3 }),
		"Pre of nothing":          changed(func(n *api.Net) { n.Trans[1].Pre = nil }),
		"the first Pre too short": changed(func(n *api.Net) { n.Trans[0].Pre = []int{1} }),
		"the last Pre too short":  changed(func(n *api.Net) { n.Trans[1].Pre = []int{1} }),
		"the first Pre too long":  changed(func(n *api.Net) { n.Trans[0].Pre = []int{1, 0, 0} }),
		"the last Pre too long":   changed(func(n *api.Net) { n.Trans[1].Pre = make([]int, 99) }),
		"Pre below all":           changed(func(n *api.Net) { n.Trans[0].Pre[1] = -1 }),
		"Pre above all":           changed(func(n *api.Net) { n.Trans[1].Pre[0] = api.MaxWeight + 1 }),
		"Pre far above all":       changed(func(n *api.Net) { n.Trans[1].Pre[1] = math.MaxInt }),
		"Post of nothing":         changed(func(n *api.Net) { n.Trans[0].Post = nil }),
		"Post too short":          changed(func(n *api.Net) { n.Trans[1].Post = []int{1} }),
		"Post too long":           changed(func(n *api.Net) { n.Trans[1].Post = []int{1, 1, 1} }),
		"Post below all":          changed(func(n *api.Net) { n.Trans[1].Post[1] = math.MinInt }),
		"Post above all":          changed(func(n *api.Net) { n.Trans[0].Post[0] = api.MaxWeight + 1 }),
	} {
		if net.Wrong(n) == api.OK {
			t.Errorf("%s: not wrong at all", what)
		}
		if free, parts := Free(n), Clusters(n); free || len(parts) != 0 {
			t.Errorf("%s: %v, %v", what, free, parts)
		}
	}
	if n := changed(func(*api.Net) {}); !Free(n) || len(Clusters(n)) != 1 {
		t.Error("what is changed above is not right to begin with")
	}
}

// told is the promise's words: what shares is linked, and who leads to whom is asked of all, by way of all.
func told(n api.Net) (free bool, parts [][]int) {
	var leads [api.MaxTrans][api.MaxTrans]bool
	free = true
	for a, one := range n.Trans {
		leads[a][a] = true
		for b, other := range n.Trans {
			for p := range n.Places {
				if one.Pre[p] > 0 && other.Pre[p] > 0 {
					leads[a][b] = true
					free = free && reflect.DeepEqual(one.Pre, other.Pre)
				}
			}
		}
	}
	for by := range n.Trans {
		for a := range n.Trans {
			for b := range n.Trans {
				leads[a][b] = leads[a][b] || leads[a][by] && leads[by][b]
			}
		}
	}
	for a := range n.Trans {
		var part []int
		for b := range n.Trans {
			if leads[a][b] {
				part = append(part, b)
			}
		}
		if part[0] == a {
			parts = append(parts, part)
		}
	}
	return free, parts
}

// digits is the lowest digits of x, of so many kinds.
func digits(x, kinds, many int) []int {
	l := make([]int, many)
	for i := range l {
		l[i] = x % kinds
		x /= kinds
	}
	return l
}

// small are all nets of so many places and transitions that take weights of so many kinds.
func small(places, trans, kinds int, check func(n api.Net)) {
	all := 1
	for range places * trans {
		all *= kinds
	}
	for x := range all {
		weights := digits(x, kinds, places*trans)
		check(taking(places, slices.Collect(slices.Chunk(weights, places))...))
	}
}

// large are made nets of any size: most transitions take from few places, and some do as one ahead of them.
func large(many int, check func(n api.Net)) {
	x := uint64(1)
	next := func(below int) int {
		x = x*6364136223846793005 + 1442695040888963407
		return int(x>>33) % below
	}
	for range many {
		places := 1 + next(api.MaxPlaces)
		var pres [][]int
		for range next(api.MaxTrans + 1) {
			pre := make([]int, places)
			for range next(3) {
				pre[next(places)] = 1 + next(2)
			}
			if len(pres) > 0 && next(2) == 0 {
				pre = slices.Clone(pres[next(len(pres))])
			}
			pres = append(pres, pre)
		}
		check(taking(places, pres...))
	}
}

// Many nets against the promise's words.
func TestManyNets(t *testing.T) {
	free, not, several, byOthers := 0, 0, 0, 0
	check := func(n api.Net) {
		wantFree, want := told(n)
		if got, parts := Free(n), Clusters(n); got != wantFree || !same(parts, want) {
			t.Fatalf("%v: %v, %v, not %v, %v", n, got, parts, wantFree, want)
		}
		if wantFree {
			free++
		} else {
			not++
		}
		for _, part := range want {
			if len(part) > 1 && len(want) > 1 {
				several++
			}
			if len(part) > 2 && !share(n.Trans[part[0]], n.Trans[part[1]]) {
				byOthers++
			}
		}
	}
	small(1, 4, 4, check)
	small(2, 3, 4, check)
	small(3, 3, 3, check)
	small(3, 4, 2, check)
	small(2, 6, 2, check)
	large(5000, check)
	if free < 1000 || not < 1000 || several < 1000 || byOthers < 1000 {
		t.Errorf("%d free, %d not, %d parts of several beside others, %d linked by others: too few to tell", free, not, several, byOthers)
	}
}

// Who chooses freely chooses among all: where one of a part can fire, all can; and no other net has that.
func TestWhoChoosesFreely(t *testing.T) {
	free, not := 0, 0
	check := func(n api.Net) {
		all := true
		for _, part := range Clusters(n) {
			for _, a := range part {
				able, err := net.Enabled(n, n.Trans[a].Pre)
				if err != api.OK {
					t.Fatalf("%v: %d", n, err)
				}
				for _, b := range part {
					all = all && slices.Contains(able, b)
				}
			}
		}
		if Free(n) != all {
			t.Fatalf("%v: free is %v, all can fire with each other is %v", n, Free(n), all)
		}
		if all {
			free++
		} else {
			not++
		}
	}
	small(3, 3, 2, check)
	small(2, 3, 4, check)
	large(1000, check)
	if free < 100 || not < 100 {
		t.Errorf("%d free, %d not: too few to tell", free, not)
	}
}

// What is built of blocks chooses freely, and its choices are its parts of several.
func TestNetsOfBlocks(t *testing.T) {
	step := func(label int) api.Block { return api.Block{Kind: api.Step, Label: label} }
	kids := func(kind int, l ...api.Block) api.Block { return api.Block{Kind: kind, Kids: l} }
	for _, c := range []struct {
		b    api.Block
		want [][]int
	}{
		{kids(api.Seq, step(1), step(2), step(3)), alone(3)},
		{kids(api.Choice, step(1), step(2), step(3)), [][]int{{0, 1, 2}}},
		{kids(api.Both, step(1), step(2)), alone(4)},
		{kids(api.Loop, step(1), step(2)), [][]int{{0}, {1}, {2, 3}}},
		{kids(api.Both, kids(api.Choice, step(1), step(2)), kids(api.Choice, step(3), step(4))), [][]int{{0}, {1, 2}, {3, 4}, {5}}},
		{kids(api.Choice, kids(api.Seq, step(1), step(2)), step(3), kids(api.Loop, step(4), step(5))), [][]int{{0, 2, 3}, {1}, {4}, {5, 6}}},
	} {
		n, err := grow.Grow(c.b)
		if err != api.OK {
			t.Fatalf("%v: %d", c.b, err)
		}
		if free, parts := Free(n), Clusters(n); !free || !same(parts, c.want) {
			t.Errorf("%v: %v, %v, not %v", c.b, free, parts, c.want)
		}
	}
}

// Behind the end of a list there may be spare room: it is neither looked at nor changed.
func TestSpareRoom(t *testing.T) {
	one, other, post := []int{1, 0, 1, 99}, []int{0, 1, 1, 98}, []int{0, 1, -1, -1}
	room := []api.Tran{
		{Label: 1, Pre: one[:2], Post: post[:2]},
		{Label: 2, Pre: other[:2], Post: post[:2]},
		{Label: 3, Pre: []int{1, 1}, Post: []int{0, 0}},
	}
	n := api.Net{Places: 2, Trans: room[:2]}
	if free, parts := Free(n), Clusters(n); !free || !same(parts, alone(2)) {
		t.Errorf("the room behind the end is looked at: %v, %v", free, parts)
	}
	if !slices.Equal(one, []int{1, 0, 1, 99}) || !slices.Equal(other, []int{0, 1, 1, 98}) || !slices.Equal(post, []int{0, 1, -1, -1}) {
		t.Errorf("lists, or the room behind them, were changed: %v, %v, %v", one, other, post)
	}
	if !reflect.DeepEqual(room[2], api.Tran{Label: 3, Pre: []int{1, 1}, Post: []int{0, 0}}) {
		t.Errorf("the room behind the transitions was changed: %v", room[2])
	}
}

// What is handed in stays as it is, what is answered is the caller's, and no two lists of it share anything.
func TestAnswersAreNew(t *testing.T) {
	made := func() api.Net {
		return taking(3, []int{1, 0, 0}, []int{0, 1, 0}, []int{1, 0, 0}, []int{0, 0, 2}, []int{0, 1, 0}, []int{1, 0, 0})
	}
	want := [][]int{{0, 2, 5}, {1, 4}, {3}}
	n := made()
	parts := Clusters(n)
	if !Free(n) || !same(parts, want) || !reflect.DeepEqual(n, made()) {
		t.Fatalf("%v of %v", parts, n)
	}
	for i := range n.Trans {
		clear(n.Trans[i].Pre)
	}
	if !same(parts, want) {
		t.Error("something of the net was kept")
	}
	for i := range parts {
		for j := range parts[i] {
			parts[i][j] = 10 * i
		}
		_ = append(parts[i], 99)
	}
	if !same(parts, [][]int{{0, 0, 0}, {10, 10}, {20}}) {
		t.Errorf("lists of one answer share memory: %v", parts)
	}
	if again := Clusters(made()); !same(again, want) {
		t.Errorf("again: %v", again)
	}
}

// One list may be handed in for several transitions.
func TestSharedLists(t *testing.T) {
	pre := []int{1, 2}
	n := api.Net{Places: 2, Trans: slices.Repeat([]api.Tran{{Pre: pre, Post: pre}}, 3)}
	if !Free(n) || !same(Clusters(n), [][]int{{0, 1, 2}}) || !slices.Equal(pre, []int{1, 2}) {
		t.Errorf("%v, %v, %v", Free(n), Clusters(n), pre)
	}
}

func ExampleClusters() {
	n := api.Net{Places: 3, Trans: []api.Tran{
		{Label: 1, Pre: []int{1, 0, 0}, Post: []int{0, 1, 0}},
		{Label: 2, Pre: []int{0, 1, 0}, Post: []int{0, 0, 1}},
		{Label: 3, Pre: []int{1, 0, 0}, Post: []int{0, 0, 1}},
	}}
	fmt.Println(Free(n), Clusters(n))
	// Output: true [[0 2] [1]]
}
