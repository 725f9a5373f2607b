package siphon

import (
	"fmt"
	"math"
	"reflect"
	"slices"
	"testing"

	"tokenhall/api"
	"tokenhall/net"
)

// row goes from place 0 on to place 1, and from there to place 2.
func row() api.Net {
	return api.Net{Places: 3, Trans: []api.Tran{
		{Label: 1, Pre: []int{1, 0, 0}, Post: []int{0, 1, 0}},
		{Label: 2, Pre: []int{0, 1, 0}, Post: []int{0, 0, 1}},
	}}
}

// ring goes on from place to place, and from the last one to the first.
func ring(places int) api.Net {
	n := api.Net{Places: places}
	for p := range places {
		t := api.Tran{Pre: make([]int, places), Post: make([]int, places)}
		t.Pre[p], t.Post[(p+1)%places] = 1, 1
		n.Trans = append(n.Trans, t)
	}
	return n
}

// chain is a row of as many places as may be, whose transitions are told from the last one to the first.
func chain() api.Net {
	n := ring(api.MaxPlaces)
	n.Trans = n.Trans[:api.MaxPlaces-1]
	slices.Reverse(n.Trans)
	return n
}

// source puts a token at place 0 out of nothing; drain takes one away.
func source() api.Net {
	return api.Net{Places: 2, Trans: []api.Tran{{Pre: []int{0, 0}, Post: []int{1, 0}}}}
}

func drain() api.Net { return net.Turned(source()) }

// either takes from place 0 and puts at 1 and 2, or takes from 1 and 2 and puts at 0; weights are large.
func either() api.Net {
	return api.Net{Places: 3, Trans: []api.Tran{
		{Pre: []int{9, 0, 0}, Post: []int{0, 9, 9}},
		{Pre: []int{0, 9, 9}, Post: []int{9, 0, 0}},
	}}
}

// widest has all places and all transitions that may be; each takes from two places, and puts at two.
func widest() api.Net {
	n := api.Net{Places: api.MaxPlaces}
	for i := range api.MaxTrans {
		t := api.Tran{Label: api.MaxLabel, Pre: make([]int, n.Places), Post: make([]int, n.Places)}
		t.Pre[i*5%n.Places], t.Pre[i*7%n.Places] = 1, api.MaxWeight
		t.Post[i*3%n.Places], t.Post[(i+4)%n.Places] = api.MaxWeight, 2
		n.Trans = append(n.Trans, t)
	}
	return n
}

// changed is row with one thing that is different.
func changed(change func(n *api.Net)) api.Net {
	n := row()
	change(&n)
	return n
}

// wrong are nets that are wrong, each for one thing alone.
func wrong() map[string]api.Net {
	return map[string]api.Net{
		"-1 places":               {Places: -1},
		"the fewest places":       {Places: math.MinInt},
		"one place too many":      {Places: api.MaxPlaces + 1},
		"the most places":         {Places: math.MaxInt},
		"one transition too many": {Trans: make([]api.Tran, api.MaxTrans+1)},
		"label -1":                changed(func(n *api.Net) { n.Trans[0].Label = -1 }),
		"label too large":         changed(func(n *api.Net) { n.Trans[1].Label = api.MaxLabel + 1 }),
		"Pre of nothing":          changed(func(n *api.Net) { n.Trans[0].Pre = nil }),
		"Post of nothing":         changed(func(n *api.Net) { n.Trans[1].Post = nil }),
		"Pre too long":            changed(func(n *api.Net) { n.Trans[1].Pre = []int{0, 1, 0, 0} }),
		"Pre far too long":        changed(func(n *api.Net) { n.Trans[1].Pre = make([]int, 99) }),
		"Post too short":          changed(func(n *api.Net) { n.Trans[0].Post = []int{0, 1} }),
		"Pre that takes Many":     changed(func(n *api.Net) { n.Trans[1].Pre[0] = api.Many }),
		"Post that puts Many":     changed(func(n *api.Net) { n.Trans[0].Post[0] = api.Many }),
		"Pre too large":           changed(func(n *api.Net) { n.Trans[0].Pre[1] = api.MaxWeight + 1 }),
		"Post too large":          changed(func(n *api.Net) { n.Trans[1].Post[1] = math.MaxInt }),
	}
}

// answers is what all four calls answer of one net and one list.
type answers struct {
	siphon, trap   bool
	most, mostTrap []int
}

func ask(n api.Net, l []int) answers {
	return answers{Siphon(n, l), Trap(n, l), Most(n, l), MostTrap(n, l)}
}

// same holds nil and empty lists to be the same.
func (a answers) same(b answers) bool {
	return a.siphon == b.siphon && a.trap == b.trap && slices.Equal(a.most, b.most) && slices.Equal(a.mostTrap, b.mostTrap)
}

func upTo(places int) []int {
	var l []int
	for p := range places {
		l = append(l, p)
	}
	return l
}

func TestAnswers(t *testing.T) {
	for _, c := range []struct {
		n    api.Net
		l    []int
		want answers
		what string
	}{
		{api.Net{}, nil, answers{true, true, nil, nil}, "nothing"},
		{api.Net{}, []int{}, answers{true, true, nil, nil}, "nothing, empty"},
		{api.Net{Trans: make([]api.Tran, 2)}, nil, answers{true, true, nil, nil}, "transitions alone"},
		{api.Net{Places: 3}, []int{2, 0}, answers{true, true, []int{0, 2}, []int{0, 2}}, "places alone: all is both"},
		{row(), nil, answers{true, true, nil, nil}, "no place is a siphon and a trap"},
		{row(), []int{}, answers{true, true, nil, nil}, "no place, empty"},
		{row(), []int{0}, answers{true, false, []int{0}, nil}, "the document's sixth example: the first one"},
		{row(), []int{1}, answers{false, false, nil, nil}, "the one between"},
		{row(), []int{2}, answers{false, true, nil, []int{2}}, "the document's sixth example: the last one"},
		{row(), []int{0, 1}, answers{true, false, []int{0, 1}, nil}, "the first two: all that is before is there"},
		{row(), []int{1, 2}, answers{false, true, nil, []int{1, 2}}, "the last two: all that is behind is there"},
		{row(), []int{0, 2}, answers{false, false, []int{0}, []int{2}}, "a gap"},
		{row(), []int{2, 0}, answers{false, false, []int{0}, []int{2}}, "whatever order"},
		{row(), []int{2, 1, 0, 1, 2, 2}, answers{true, true, []int{0, 1, 2}, []int{0, 1, 2}}, "however often: told once, rising"},
		{row(), []int{1, 0, 1}, answers{true, false, []int{0, 1}, nil}, "however often"},
		{ring(4), []int{3, 1, 0, 2}, answers{true, true, []int{0, 1, 2, 3}, []int{0, 1, 2, 3}}, "all of a ring"},
		{ring(4), []int{0, 1, 2}, answers{false, false, nil, nil}, "of a ring all or none"},
		{ring(1), []int{0}, answers{true, true, []int{0}, []int{0}}, "it leaves what it takes"},
		{source(), []int{0}, answers{false, true, nil, []int{0}}, "out of nothing"},
		{source(), []int{1}, answers{true, true, []int{1}, []int{1}}, "a place that nothing touches"},
		{source(), []int{0, 1}, answers{false, true, []int{1}, []int{0, 1}}, "out of nothing, beside one that nothing touches"},
		{drain(), []int{0}, answers{true, false, []int{0}, nil}, "into nothing"},
		{drain(), []int{0, 1}, answers{true, false, []int{0, 1}, []int{1}}, "into nothing, beside one that nothing touches"},
		{either(), []int{0}, answers{false, false, nil, nil}, "what it takes is elsewhere"},
		{either(), []int{0, 1}, answers{true, true, []int{0, 1}, []int{0, 1}}, "one of two that are taken is enough"},
		{either(), []int{0, 2}, answers{true, true, []int{0, 2}, []int{0, 2}}, "the other one, too"},
		{either(), []int{1, 2}, answers{false, false, nil, nil}, "both, without where they come from"},
		{either(), []int{0, 1, 2}, answers{true, true, []int{0, 1, 2}, []int{0, 1, 2}}, "siphons together are one"},
		{chain(), upTo(api.MaxPlaces), answers{true, true, upTo(api.MaxPlaces), upTo(api.MaxPlaces)}, "a row as long as may be"},
		{chain(), upTo(api.MaxPlaces)[1:], answers{false, true, nil, upTo(api.MaxPlaces)[1:]}, "without its first place: nothing is left of it"},
		{chain(), upTo(api.MaxPlaces - 1), answers{true, false, upTo(api.MaxPlaces - 1), nil}, "without its last place: no trap is left"},
		{chain(), []int{15, 14, 0, 1, 3}, answers{false, false, []int{0, 1}, []int{14, 15}}, "of a row what begins it, and what ends it"},
	} {
		if got := ask(c.n, c.l); !got.same(c.want) {
			t.Errorf("%s: %v, not %v", c.what, got, c.want)
		}
	}
}

func TestWrong(t *testing.T) {
	none := answers{}
	for what, n := range wrong() {
		for _, l := range [][]int{nil, {}, {0}, {0, 1, 2}, {-1}, {3}, {16}, {math.MaxInt}} {
			if got := ask(n, l); !got.same(none) {
				t.Errorf("%s, %v: %v", what, l, got)
			}
		}
	}
	for _, c := range []struct {
		n api.Net
		l []int
	}{
		{api.Net{}, []int{0}},
		{api.Net{}, []int{-1}},
		{row(), []int{-1}},
		{row(), []int{3}},
		{row(), []int{0, 1, 2, 3}},
		{row(), []int{3, 0, 1, 2}},
		{row(), []int{0, -1, 1, 2}},
		{row(), []int{0, 1, 2, math.MinInt}},
		{row(), []int{math.MaxInt}},
		{row(), []int{15}},
		{row(), []int{16}},
		{api.Net{Places: api.MaxPlaces}, []int{15, 16}},
		{api.Net{Places: api.MaxPlaces}, []int{api.Many}},
	} {
		if got := ask(c.n, c.l); !got.same(none) {
			t.Errorf("%v, %v: %v", c.n, c.l, got)
		}
	}
	edge := []int{0, 15}
	if got := ask(api.Net{Places: api.MaxPlaces}, edge); !got.same(answers{true, true, edge, edge}) {
		t.Errorf("the first and the last place that may be: %v", got)
	}
}

// members are the places that are written as bits.
func members(bits int) []int {
	var l []int
	for p := range api.MaxPlaces {
		if bits>>p&1 == 1 {
			l = append(l, p)
		}
	}
	return l
}

// keeps is the promise's words, for siphons; l has places as bits.
func keeps(n api.Net, l int) bool {
	for _, t := range n.Trans {
		puts, takes := false, false
		for p := range n.Places {
			puts = puts || l>>p&1 == 1 && t.Post[p] != 0
			takes = takes || l>>p&1 == 1 && t.Pre[p] != 0
		}
		if puts && !takes {
			return false
		}
	}
	return true
}

// told goes through all groups of places within l: the largest siphon has all that any of them has.
func told(n api.Net, l int) answers {
	var a answers
	turned := api.Net{Places: n.Places}
	for _, t := range n.Trans {
		turned.Trans = append(turned.Trans, api.Tran{Pre: t.Post, Post: t.Pre})
	}
	a.siphon, a.trap = keeps(n, l), keeps(turned, l)
	most, mostTrap := 0, 0
	for some := range l + 1 {
		if some&^l == 0 && keeps(n, some) {
			most |= some
		}
		if some&^l == 0 && keeps(turned, some) {
			mostTrap |= some
		}
	}
	a.most, a.mostTrap = members(most), members(mostTrap)
	return a
}

// some are nets of three places: transitions of all kinds, two by two, and with a third one between.
func some(check func(n api.Net)) {
	var trans []api.Tran
	for i := range 64 {
		trans = append(trans, api.Tran{
			Pre:  []int{i & 1, i >> 1 & 1 * 9, i >> 2 & 1},
			Post: []int{i >> 3 & 1, i >> 4 & 1, i >> 5 * 2},
		})
	}
	for i := range trans {
		for j := range trans {
			check(api.Net{Places: 3, Trans: []api.Tran{trans[i], trans[j]}})
			check(api.Net{Places: 3, Trans: []api.Tran{trans[j], trans[(i*7+j)%64], trans[i]}})
		}
	}
}

// Many nets against the promises' words.
func TestManyNets(t *testing.T) {
	yes, no, parts := 0, 0, 0
	some(func(n api.Net) {
		for l := range 8 {
			want, got := told(n, l), ask(n, members(l))
			if !got.same(want) {
				t.Fatalf("%v, %v: %v, not %v", n, members(l), got, want)
			}
			if want.siphon {
				yes++
			} else {
				no++
			}
			if 0 < len(want.most) && !want.siphon {
				parts++
			}
		}
	})
	if yes < 1000 || no < 1000 || parts < 1000 {
		t.Errorf("%d siphons, %d that are none, %d that have one: too few to tell", yes, no, parts)
	}
}

func TestTheWidestNet(t *testing.T) {
	n := widest()
	if net.Wrong(n) != api.OK {
		t.Fatal("it is wrong")
	}
	for _, without := range []int{0, 1, 1 << 15, 1<<4 | 1<<9, 1<<3 | 1<<7 | 1<<11, 0xf0, 0x5555, 0xfff0} {
		l := 0xffff &^ without
		if want, got := told(n, l), ask(n, members(l)); !got.same(want) {
			t.Errorf("%v: %v, not %v", members(l), got, want)
		}
	}
}

// What is empty stays empty, what is marked stays marked.
func TestFiringsKeepThem(t *testing.T) {
	fired := 0
	some(func(n api.Net) {
		for l := 1; l < 8; l++ {
			places := members(l)
			siphon, trap := Siphon(n, places), Trap(n, places)
			for bits := range 8 {
				m := []int{bits & 1 * 9, bits >> 1 & 1 * 9, bits >> 2 & 1 * 9}
				for i := range n.Trans {
					next, err := net.Fire(n, m, i)
					if err != api.OK {
						continue
					}
					fired++
					if siphon && !marked(m, places) && marked(next, places) {
						t.Fatalf("%v: siphon %v, empty at %v, is marked at %v", n, places, m, next)
					}
					// A trap that all is taken from keeps what is put there by the same firing.
					if trap && marked(m, places) && !marked(next, places) {
						t.Fatalf("%v: trap %v, marked at %v, is empty at %v", n, places, m, next)
					}
				}
			}
		}
	})
	if fired < 10000 {
		t.Errorf("%d firings: too few to tell", fired)
	}
}

func marked(m, places []int) bool {
	return slices.ContainsFunc(places, func(p int) bool { return m[p] != 0 })
}

// A list may be much longer than the net has places.
func TestLongLists(t *testing.T) {
	l := make([]int, 100000)
	for i := range l {
		l[i] = i % 2
	}
	if got := ask(row(), l); !got.same(answers{true, false, []int{0, 1}, nil}) {
		t.Errorf("%v", got)
	}
	l[len(l)-1] = 3
	if got := ask(row(), l); !got.same(answers{}) {
		t.Errorf("with what is no place at its end: %v", got)
	}
}

// Behind the end of a list there may be spare room: it is neither looked at nor changed.
func TestSpareRoom(t *testing.T) {
	pre, post, l := []int{1, 0, 99, 99}, []int{0, 1, -1, -1}, []int{1, 0, -5, 0}
	room := []api.Tran{{Label: 1, Pre: pre[:2], Post: post[:2]}, {Label: 99}}
	n := api.Net{Places: 2, Trans: room[:1]}
	for used, want := range []answers{
		{true, true, nil, nil},
		{false, true, nil, []int{1}},
		{true, true, []int{0, 1}, []int{0, 1}},
	} {
		if got := ask(n, l[:used]); !got.same(want) {
			t.Errorf("%v: %v, not %v", l[:used], got, want)
		}
	}
	for _, l := range []struct{ got, want []int }{
		{pre, []int{1, 0, 99, 99}}, {post, []int{0, 1, -1, -1}}, {l, []int{1, 0, -5, 0}},
	} {
		if !slices.Equal(l.got, l.want) {
			t.Errorf("%v was changed to %v", l.want, l.got)
		}
	}
	if room[1].Label != 99 || room[1].Pre != nil || room[1].Post != nil {
		t.Error("the room behind the transitions was changed")
	}
}

// What is answered shares nothing with what was handed in, nor with what was answered before.
func TestAnswersAreNew(t *testing.T) {
	n, l := row(), []int{0, 1, 2}
	got := ask(n, l)
	for _, list := range [][]int{got.most, got.mostTrap} {
		for i := range list {
			list[i] = 99
		}
		_ = append(list, 99)
	}
	if !reflect.DeepEqual(n, row()) || !slices.Equal(l, []int{0, 1, 2}) {
		t.Error("an answer shares memory with what was handed in")
	}
	again := ask(n, l)
	l[0], n.Trans[0].Pre[0], n.Trans[0].Post[1] = 9, 9, 9
	if !again.same(answers{true, true, []int{0, 1, 2}, []int{0, 1, 2}}) {
		t.Errorf("again: %v", again)
	}
}

func ExampleSiphon() {
	n := api.Net{Places: 3, Trans: []api.Tran{
		{Label: 1, Pre: []int{1, 0, 0}, Post: []int{0, 1, 0}},
		{Label: 2, Pre: []int{0, 1, 0}, Post: []int{0, 0, 1}},
	}}
	fmt.Println(Siphon(n, []int{0}), Siphon(n, []int{2}))
	fmt.Println(Trap(n, []int{0}), Trap(n, []int{2}))
	// Output:
	// true false
	// false true
}

func ExampleMost() {
	n := api.Net{Places: 3, Trans: []api.Tran{
		{Label: 1, Pre: []int{1, 0, 0}, Post: []int{0, 1, 0}},
		{Label: 2, Pre: []int{0, 1, 0}, Post: []int{0, 0, 1}},
	}}
	fmt.Println(Most(n, []int{2, 0}), MostTrap(n, []int{2, 0}))
	// Output: [0] [2]
}
