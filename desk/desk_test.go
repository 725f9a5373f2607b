package desk

import (
	"fmt"
	"math"
	"reflect"
	"slices"
	"testing"

	"tokenhall/api"
	"tokenhall/cases"
)

const most = api.MaxTokens

// made is a net of so many places and these transitions.
func made(places int, trans ...api.Tran) api.Net {
	return api.Net{Places: places, Trans: trans}
}

// one has one token at each of these places of so many.
func one(places int, these ...int) []int {
	l := make([]int, places)
	for _, p := range these {
		l[p]++
	}
	return l
}

// row is label 1 from place 0 to place 1, what nobody sees from there to place 2, and label 2 from there to place 3.
func row() api.Net {
	return made(4,
		api.Tran{Label: 1, Pre: one(4, 0), Post: one(4, 1)},
		api.Tran{Pre: one(4, 1), Post: one(4, 2)},
		api.Tran{Label: 2, Pre: one(4, 2), Post: one(4, 3)})
}

// fork makes two tokens of one, unseen, for label 1 and for label 2; and label 1 of transition 3 needs what is never there.
func fork() api.Net {
	return made(4,
		api.Tran{Pre: one(4, 0), Post: one(4, 1, 1)},
		api.Tran{Label: 1, Pre: one(4, 1), Post: one(4, 2)},
		api.Tran{Label: 2, Pre: one(4, 1), Post: one(4, 2)},
		api.Tran{Label: 1, Pre: one(4, 3), Post: one(4, 2)})
}

// free takes nothing: what is seen puts nine at place 0, and what nobody sees does so as well.
func free() api.Net {
	return made(1, api.Tran{Label: 1, Pre: []int{0}, Post: []int{9}}, api.Tran{Pre: []int{0}, Post: []int{9}})
}

// staff may do label 1, label 2, both and nothing, one user each.
func staff() [][]int {
	return [][]int{{1}, {2}, {2, 1}, nil}
}

func begin(user, tran int) api.DeskOp {
	return api.DeskOp{Kind: api.DeskBegin, User: user, Tran: tran}
}

func end(user, item int) api.DeskOp {
	return api.DeskOp{Kind: api.DeskEnd, User: user, Item: item}
}

func undo(user, item int) api.DeskOp {
	return api.DeskOp{Kind: api.DeskUndo, User: user, Item: item}
}

func give(user, item, to int) api.DeskOp {
	return api.DeskOp{Kind: api.DeskGive, User: user, Item: item, To: to}
}

func skip(tran int) api.DeskOp {
	return api.DeskOp{Kind: api.DeskSkip, Tran: tran}
}

// sameDesk holds nil and empty lists to be the same.
func sameDesk(a, b api.Desk) bool {
	return slices.Equal(a.Case.Mark, b.Case.Mark) && slices.Equal(a.Case.Busy, b.Case.Busy) && slices.Equal(a.Items, b.Items)
}

// checkPlay holds the whole of what Play answers, without an error of its own, against what must come.
func checkPlay(t *testing.T, what string, n api.Net, i int, roles [][]int, ops []api.DeskOp, want api.Desk, answers []api.DeskAns) {
	t.Helper()
	got, came, err := Play(n, i, roles, ops)
	if !sameDesk(got, want) || !slices.Equal(came, answers) || err != api.OK {
		t.Errorf("%s: %v, %v, %d, not %v, %v", what, got, came, err, want, answers)
	}
}

// checkLast holds the last answer alone against what must come, and sees that an error changes nothing.
func checkLast(t *testing.T, what string, n api.Net, roles [][]int, ops []api.DeskOp, want api.DeskAns) {
	t.Helper()
	ahead, first, _ := Play(n, 0, roles, ops[:len(ops)-1])
	got, answers, err := Play(n, 0, roles, ops)
	if err != api.OK || len(answers) != len(ops) || !slices.Equal(answers[:len(ops)-1], first) {
		t.Fatalf("%s: %v, %d", what, answers, err)
	}
	if last := answers[len(ops)-1]; last != want {
		t.Errorf("%s: %v, not %v", what, last, want)
	}
	if want.Err != api.OK && !sameDesk(got, ahead) {
		t.Errorf("%s: %v became %v", what, ahead, got)
	}
}

func TestPlay(t *testing.T) {
	for _, c := range []struct {
		what    string
		i       int
		ops     []api.DeskOp
		mark    []int
		busy    []int
		items   []api.Item
		answers []api.DeskAns
	}{
		{"nothing is done", 0, nil, one(4, 0), one(3), nil, nil},
		{"nothing is done elsewhere", 3, []api.DeskOp{}, one(4, 3), one(3), nil, nil},
		{"begun: there is an item", 0, []api.DeskOp{begin(0, 0)},
			one(4), one(3, 0), []api.Item{{User: 0, Tran: 0, Open: true}}, []api.DeskAns{{}}},
		{"begun, and ended: the item is there, and not open", 0, []api.DeskOp{begin(0, 0), end(0, 0)},
			one(4, 1), one(3), []api.Item{{User: 0, Tran: 0}}, []api.DeskAns{{}, {}}},
		{"begun, and given back: as if it had not been, but for the item", 0, []api.DeskOp{begin(2, 0), undo(2, 0)},
			one(4, 0), one(3), []api.Item{{User: 2, Tran: 0}}, []api.DeskAns{{}, {}}},
		{"begun again: an item of its own", 0, []api.DeskOp{begin(0, 0), undo(0, 0), begin(2, 0)},
			one(4), one(3, 0), []api.Item{{User: 0, Tran: 0}, {User: 2, Tran: 0, Open: true}}, []api.DeskAns{{}, {}, {Item: 1}}},
		{"handed on", 0, []api.DeskOp{begin(0, 0), give(0, 0, 2)},
			one(4), one(3, 0), []api.Item{{User: 2, Tran: 0, Open: true}}, []api.DeskAns{{}, {}}},
		{"handed on, and back", 0, []api.DeskOp{begin(0, 0), give(0, 0, 2), give(2, 0, 0), end(0, 0)},
			one(4, 1), one(3), []api.Item{{User: 0, Tran: 0}}, []api.DeskAns{{}, {}, {}, {}}},
		{"handed to oneself", 0, []api.DeskOp{begin(0, 0), give(0, 0, 0)},
			one(4), one(3, 0), []api.Item{{User: 0, Tran: 0, Open: true}}, []api.DeskAns{{}, {}}},
		{"who has it ends it", 0, []api.DeskOp{begin(0, 0), give(0, 0, 2), end(0, 0), end(2, 0)},
			one(4, 1), one(3), []api.Item{{User: 2, Tran: 0}}, []api.DeskAns{{}, {}, {Err: api.ErrHeld}, {}}},
		{"skipped: no item", 1, []api.DeskOp{skip(1)}, one(4, 2), one(3), nil, []api.DeskAns{{}}},
		{"from the first place to the last one", 0, []api.DeskOp{begin(0, 0), end(0, 0), skip(1), begin(1, 2), end(1, 1)},
			one(4, 3), one(3), []api.Item{{User: 0, Tran: 0}, {User: 1, Tran: 2}}, []api.DeskAns{{}, {}, {}, {Item: 1}, {Item: 1}}},
		{"the document's seventeenth example: who may not, and who has it not, is refused", 0,
			[]api.DeskOp{begin(1, 0), begin(0, 0), end(2, 0), undo(2, 0), give(2, 0, 2)},
			one(4), one(3, 0), []api.Item{{User: 0, Tran: 0, Open: true}},
			[]api.DeskAns{{Err: api.ErrRole}, {}, {Err: api.ErrHeld}, {Err: api.ErrHeld}, {Err: api.ErrHeld}}},
		{"what has an error changes nothing, and the others go on", 0,
			[]api.DeskOp{end(0, 0), begin(0, 0), begin(0, 0), skip(1), {}, give(0, 0, 1), end(0, 0), undo(0, 0), skip(1), begin(2, 2), end(2, 0), undo(2, 1), begin(1, 2), end(1, 2)},
			one(4, 3), one(3), []api.Item{{User: 0, Tran: 0}, {User: 2, Tran: 2}, {User: 1, Tran: 2}},
			[]api.DeskAns{{Err: api.ErrNone}, {}, {Err: api.ErrNone}, {Err: api.ErrNone}, {Err: api.ErrKind}, {Err: api.ErrRole}, {}, {Err: api.ErrNone}, {},
				{Item: 1}, {Err: api.ErrNone}, {Item: 1}, {Item: 2}, {Item: 2}}},
	} {
		want := api.Desk{Case: api.Case{Mark: c.mark, Busy: c.busy}, Items: c.items}
		checkPlay(t, c.what, row(), c.i, staff(), c.ops, want, c.answers)
	}
}

// Items are open side by side, of one transition too, and leave in whatever order.
func TestSideBySide(t *testing.T) {
	ops := []api.DeskOp{skip(0), begin(0, 1), begin(2, 1)}
	both := api.Desk{Case: api.Case{Mark: one(4), Busy: []int{0, 2, 0, 0}}, Items: []api.Item{{User: 0, Tran: 1, Open: true}, {User: 2, Tran: 1, Open: true}}}
	checkPlay(t, "two of one transition", fork(), 0, staff(), ops, both, []api.DeskAns{{}, {}, {Item: 1}})

	ops = append(ops, end(0, 1), end(2, 1), undo(0, 0), begin(1, 2), end(0, 2), give(1, 2, 2))
	late := api.Desk{Case: api.Case{Mark: one(4, 2), Busy: []int{0, 0, 1, 0}},
		Items: []api.Item{{User: 0, Tran: 1}, {User: 2, Tran: 1}, {User: 2, Tran: 2, Open: true}}}
	checkPlay(t, "the later one leaves first", fork(), 0, staff(), ops, late,
		[]api.DeskAns{{}, {}, {Item: 1}, {Err: api.ErrHeld}, {Item: 1}, {}, {Item: 2}, {Err: api.ErrHeld}, {Item: 2}})
}

// farNumbers are no users, items, transitions or places of the small nets here.
func farNumbers() []int {
	return []int{-1, -2, 9, 256, 1 << 32, -1 << 32, math.MinInt, math.MaxInt}
}

func TestErrorsOfBegin(t *testing.T) {
	roles := [][]int{{1}, {2}, {0, 1, 2}, nil}
	for _, c := range []struct {
		what string
		ops  []api.DeskOp
		want api.Errno
	}{
		{"a user who may do another label alone", []api.DeskOp{begin(1, 0)}, api.ErrRole},
		{"a user who may do nothing", []api.DeskOp{begin(3, 0)}, api.ErrRole},
		{"a user of whom nothing is told", []api.DeskOp{begin(4, 0)}, api.ErrRole},
		{"the last user that there may be, of whom nothing is told", []api.DeskOp{begin(api.MaxUsers-1, 0)}, api.ErrRole},
		{"one user more than there may be", []api.DeskOp{begin(api.MaxUsers, 0)}, api.ErrRole},
		{"no transition", []api.DeskOp{begin(0, 3)}, api.ErrNone},
		{"no transition, and who may do nothing", []api.DeskOp{begin(3, 3)}, api.ErrNone},
		{"no transition, and no user", []api.DeskOp{begin(-1, -1)}, api.ErrNone},
		{"nothing to take", []api.DeskOp{begin(1, 2)}, api.ErrNone},
		{"nothing to take, and who may not: that is told", []api.DeskOp{begin(0, 2)}, api.ErrRole},
		{"what nobody sees, by who may not", []api.DeskOp{begin(0, 1)}, api.ErrRole},
		{"what nobody sees, by who may: it takes no time", []api.DeskOp{begin(2, 1)}, api.ErrForm},
		{"it was begun already", []api.DeskOp{begin(0, 0), begin(2, 0)}, api.ErrNone},
		{"it was begun already, and who may not", []api.DeskOp{begin(0, 0), begin(1, 0)}, api.ErrRole},
	} {
		checkLast(t, c.what, row(), roles, c.ops, api.DeskAns{Err: c.want})
	}
	for _, far := range farNumbers() {
		checkLast(t, "no user", row(), roles, []api.DeskOp{begin(far, 0)}, api.DeskAns{Err: api.ErrRole})
		checkLast(t, "no such transition", row(), roles, []api.DeskOp{begin(0, far)}, api.DeskAns{Err: api.ErrNone})
		checkLast(t, "neither", row(), roles, []api.DeskOp{begin(far, far)}, api.DeskAns{Err: api.ErrNone})
	}
}

func TestErrorsOfItems(t *testing.T) {
	open := []api.DeskOp{begin(0, 0)}
	for _, c := range []struct {
		what  string
		ahead []api.DeskOp
		user  int
		item  int
		to    int
		want  api.Errno
	}{
		{"there are no items", nil, 0, 0, 0, api.ErrNone},
		{"an item too far", open, 0, 1, 0, api.ErrNone},
		{"an item too far, of another user", open, 2, 1, 0, api.ErrNone},
		{"another user", open, 2, 0, 0, api.ErrHeld},
		{"a user who may do nothing", open, 3, 0, 0, api.ErrHeld},
		{"a user of whom nothing is told", open, 4, 0, 0, api.ErrHeld},
		{"who had it", []api.DeskOp{begin(0, 0), give(0, 0, 2)}, 0, 0, 0, api.ErrHeld},
		{"it was ended", []api.DeskOp{begin(0, 0), end(0, 0)}, 0, 0, 0, api.ErrNone},
		{"it was given back", []api.DeskOp{begin(0, 0), undo(0, 0)}, 0, 0, 0, api.ErrNone},
		{"it was ended, and had by another user", []api.DeskOp{begin(0, 0), end(0, 0)}, 2, 0, 0, api.ErrNone},
		{"it was given back, and had by another user", []api.DeskOp{begin(0, 0), undo(0, 0)}, 2, 0, 0, api.ErrNone},
		{"it was given back, and another one is open", []api.DeskOp{begin(0, 0), undo(0, 0), begin(0, 0)}, 0, 0, 0, api.ErrNone},
		{"another user, and one who may not", open, 2, 0, 1, api.ErrHeld},
		{"it was ended, and one who may not", []api.DeskOp{begin(0, 0), end(0, 0)}, 0, 0, 1, api.ErrNone},
	} {
		for kind := api.DeskEnd; kind <= api.DeskGive; kind++ {
			op := api.DeskOp{Kind: kind, User: c.user, Item: c.item, To: c.to}
			checkLast(t, fmt.Sprint(c.what, ", kind ", kind), row(), staff(), append(slices.Clone(c.ahead), op), api.DeskAns{Err: c.want})
		}
	}
	for _, far := range farNumbers() {
		for kind := api.DeskEnd; kind <= api.DeskGive; kind++ {
			checkLast(t, "no such item", row(), staff(), []api.DeskOp{open[0], {Kind: kind, Item: far}}, api.DeskAns{Err: api.ErrNone})
			checkLast(t, "no such user", row(), staff(), []api.DeskOp{open[0], {Kind: kind, User: far}}, api.DeskAns{Err: api.ErrHeld})
		}
	}
}

func TestErrorsOfGive(t *testing.T) {
	for _, to := range append(farNumbers(), 1, 3, 4, 7, 8) {
		checkLast(t, fmt.Sprint("to ", to, ", who may not"), row(), staff(), []api.DeskOp{begin(0, 0), give(0, 0, to)}, api.DeskAns{Err: api.ErrRole})
	}
	// The label of the item is asked for, not the one of another transition.
	late := []api.DeskOp{begin(0, 0), end(0, 0), skip(1), begin(1, 2)}
	checkLast(t, "label 2 to who may do label 1", row(), staff(), append(late, give(1, 1, 0)), api.DeskAns{Err: api.ErrRole})
	checkLast(t, "label 2 to who may do both", row(), staff(), append(late, give(1, 1, 2)), api.DeskAns{Item: 1})
}

func TestErrorsOfSkip(t *testing.T) {
	checkLast(t, "it is seen", row(), staff(), []api.DeskOp{skip(0)}, api.DeskAns{Err: api.ErrForm})
	checkLast(t, "it is seen, and lacks", row(), staff(), []api.DeskOp{skip(2)}, api.DeskAns{Err: api.ErrForm})
	checkLast(t, "it lacks", row(), staff(), []api.DeskOp{skip(1)}, api.DeskAns{Err: api.ErrNone})
	checkLast(t, "no transition", row(), staff(), []api.DeskOp{skip(3)}, api.DeskAns{Err: api.ErrNone})
	for _, far := range farNumbers() {
		checkLast(t, "no such transition", row(), staff(), []api.DeskOp{skip(far)}, api.DeskAns{Err: api.ErrNone})
	}
	// Whoever does it, and whoever may do what: nobody sees it.
	for _, roles := range [][][]int{nil, staff(), {{0}}} {
		checkLast(t, "skipped", fork(), roles, []api.DeskOp{{Kind: api.DeskSkip, User: 3}}, api.DeskAns{})
		checkLast(t, "skipped by no user", fork(), roles, []api.DeskOp{{Kind: api.DeskSkip, User: -1}}, api.DeskAns{})
	}
}

// ErrKind goes ahead of all else, whatever else is wrong, or right.
func TestNoSuchKind(t *testing.T) {
	for _, kind := range append(farNumbers(), 0, 6, 7) {
		for _, x := range append(farNumbers(), 0, 1) {
			op := api.DeskOp{Kind: kind, User: x, Tran: x, Item: x, To: x}
			checkLast(t, fmt.Sprint(op), row(), staff(), []api.DeskOp{begin(0, 0), op}, api.DeskAns{Err: api.ErrKind})
			checkLast(t, fmt.Sprint(op), made(1), nil, []api.DeskOp{op}, api.DeskAns{Err: api.ErrKind})
		}
	}
}

// Fields that a kind has not mean nothing.
func TestOtherFields(t *testing.T) {
	ops := []api.DeskOp{begin(0, 0), give(0, 0, 2), undo(2, 0), begin(2, 0), end(2, 1), skip(1)}
	want, answers, _ := Play(row(), 0, staff(), ops)
	if slices.ContainsFunc(answers, func(a api.DeskAns) bool { return a.Err != api.OK }) {
		t.Fatalf("%v", answers)
	}
	for _, x := range append(farNumbers(), 0, 1, 2, 3) {
		other := slices.Clone(ops)
		for k := range other {
			o := &other[k]
			switch o.Kind {
			case api.DeskBegin:
				o.Item, o.To = x, x
			case api.DeskEnd, api.DeskUndo:
				o.Tran, o.To = x, x
			case api.DeskGive:
				o.Tran = x
			case api.DeskSkip:
				o.User, o.Item, o.To = x, x, x
			}
		}
		checkPlay(t, fmt.Sprint("with ", x), row(), 0, staff(), other, want, answers)
	}
}

// Of MaxUsers something is told at most, and of labels that no transition has nothing follows.
func TestRoles(t *testing.T) {
	n := made(1)
	for label := range api.MaxLabel + 1 {
		n.Trans = append(n.Trans, api.Tran{Label: label, Pre: []int{0}, Post: []int{0}})
	}
	strange := []int{-1, 27, 28, 64 + 5, 256 + 5, -1 << 32, 1<<32 + 5, math.MinInt, math.MaxInt}
	roles := [][]int{{5}, {26, 26, 1}, {}, nil, strange, append(strange, 3), {0, 4}, {20}, {5}, {1, 2, 3, 4, 5}}
	for low := 0; low <= api.MaxLabel; low += 23 {
		part := made(1, n.Trans[low:min(low+23, len(n.Trans))]...)
		for user := -1; user < 12; user++ {
			for tran, x := range part.Trans {
				want := api.DeskAns{Err: api.ErrRole}
				if user >= 0 && user < 8 && slices.Contains(roles[user], x.Label) {
					want.Err = api.OK
					if x.Label == 0 {
						want.Err = api.ErrForm
					}
				}
				what := fmt.Sprint("user ", user, ", label ", x.Label)
				checkLast(t, what, part, roles, []api.DeskOp{begin(user, tran)}, want)
			}
		}
	}
}

// Whoever has no right to anything has none by there being users behind.
func TestUsersBehind(t *testing.T) {
	roles := slices.Repeat([][]int{{1}}, 2*api.MaxUsers)
	for user := -3; user < len(roles)+3; user++ {
		beginErr, giveErr := api.OK, api.OK
		if user < 0 || user >= 8 {
			beginErr, giveErr = api.ErrRole, api.ErrRole
		}
		checkLast(t, fmt.Sprint("begun by ", user), row(), roles, []api.DeskOp{begin(user, 0)}, api.DeskAns{Err: beginErr})
		checkLast(t, fmt.Sprint("handed to ", user), row(), roles, []api.DeskOp{begin(7, 0), give(7, 0, user)}, api.DeskAns{Err: giveErr})
	}
}

// The errors of cases.Begin are told first, and beside them nothing.
func TestErrorsOfTheBeginning(t *testing.T) {
	label := row()
	label.Trans[2].Label = api.MaxLabel + 1
	short := row()
	short.Trans[1].Post = one(3)
	heavy := row()
	heavy.Trans[0].Pre[3] = api.MaxWeight + 1
	for _, c := range []struct {
		what string
		n    api.Net
		i    int
		want api.Errno
	}{
		{"-1 places", made(-1), 0, api.ErrRange},
		{"too many places", made(api.MaxPlaces + 1), 0, api.ErrRange},
		{"the most places", made(math.MaxInt), 0, api.ErrRange},
		{"too many transitions", made(0, make([]api.Tran, api.MaxTrans+1)...), 0, api.ErrRange},
		{"too great a label", label, 0, api.ErrRange},
		{"a label of -1", made(0, api.Tran{Label: -1}), 0, api.ErrRange},
		{"Post too short", short, 0, api.ErrRange},
		{"too great a weight", heavy, 0, api.ErrRange},
		{"a wrong net, and no place", label, 4, api.ErrRange},
		{"no place", row(), 4, api.ErrNone},
		{"place -1", row(), -1, api.ErrNone},
		{"the greatest number", row(), math.MaxInt, api.ErrNone},
		{"the least number", row(), math.MinInt, api.ErrNone},
		{"no places at all", made(0), 0, api.ErrNone},
		{"no places, and a transition", made(0, api.Tran{Label: 1}), 0, api.ErrNone},
	} {
		for _, roles := range [][][]int{nil, staff(), make([][]int, 30)} {
			for _, ops := range [][]api.DeskOp{nil, {begin(0, 0)}, {{}, end(-1, -1), skip(0)}} {
				got, answers, err := Play(c.n, c.i, roles, ops)
				if !sameDesk(got, api.Desk{}) || len(answers) > 0 || err != c.want {
					t.Errorf("%s: %v, %v, %d", c.what, got, answers, err)
				}
			}
		}
	}
}

// As often as a transition can go on it is somebody's, and no more often.
func TestBeginToTheLimit(t *testing.T) {
	ops := slices.Repeat([]api.DeskOp{begin(0, 0)}, most+2)
	ops = append(ops, end(0, most), undo(0, most-1), begin(2, 0), begin(0, 0), begin(1, 0))
	got, answers, err := Play(free(), 0, staff(), ops)
	if err != api.OK || len(answers) != len(ops) || len(got.Items) != most+1 {
		t.Fatalf("%d items, %d answers, %d", len(got.Items), len(answers), err)
	}
	for k, a := range answers[:most] {
		if a != (api.DeskAns{Item: k}) {
			t.Fatalf("op %d: %v", k, a)
		}
	}
	want := []api.DeskAns{{Err: api.ErrFull}, {Err: api.ErrFull}, {Err: api.ErrNone}, {Item: most - 1}, {Item: most}, {Err: api.ErrFull}, {Err: api.ErrRole}}
	if !slices.Equal(answers[most:], want) {
		t.Errorf("%v, not %v", answers[most:], want)
	}
	if !reflect.DeepEqual(got.Case, api.Case{Mark: []int{1}, Busy: []int{most, 0}}) || got.Items[most] != (api.Item{User: 2, Open: true}) {
		t.Errorf("%v, %v", got.Case, got.Items[most-1:])
	}
}

// What has no room for its end stays open, and can still be handed on and given back.
func TestEndWithoutRoom(t *testing.T) {
	fill := slices.Repeat([]api.DeskOp{skip(1)}, (most-1)/9)
	ops := append([]api.DeskOp{begin(0, 0)}, fill...)
	ops = append(ops, end(0, 0), skip(1), give(0, 0, 2), end(0, 0), end(2, 0))
	open := api.Desk{Case: api.Case{Mark: []int{1 + (most-1)/9*9}, Busy: []int{1, 0}}, Items: []api.Item{{User: 2, Open: true}}}
	answers := make([]api.DeskAns, 1+len(fill))
	answers = append(answers, api.DeskAns{Err: api.ErrFull}, api.DeskAns{Err: api.ErrFull}, api.DeskAns{}, api.DeskAns{Err: api.ErrHeld}, api.DeskAns{Err: api.ErrFull})
	checkPlay(t, "no room", free(), 0, staff(), ops, open, answers)

	back := api.Desk{Case: api.Case{Mark: open.Case.Mark, Busy: []int{0, 0}}, Items: []api.Item{{User: 2}}}
	checkPlay(t, "given back", free(), 0, staff(), append(ops, undo(2, 0)), back, append(answers, api.DeskAns{}))
}

// What has no room for what it took stays open, and can still be ended.
func TestUndoWithoutRoom(t *testing.T) {
	n := made(2, api.Tran{Label: 1, Pre: []int{1, 0}, Post: []int{0, 1}}, api.Tran{Pre: []int{0, 0}, Post: []int{8, 0}})
	fill := slices.Repeat([]api.DeskOp{skip(1)}, most/8)
	ops := append([]api.DeskOp{begin(0, 0)}, fill...)
	ops = append(ops, undo(0, 0))
	answers := append(make([]api.DeskAns, 1+len(fill)), api.DeskAns{Err: api.ErrFull})
	open := api.Desk{Case: api.Case{Mark: []int{most, 0}, Busy: []int{1, 0}}, Items: []api.Item{{Open: true}}}
	checkPlay(t, "no room", n, 0, staff(), ops, open, answers)

	ended := api.Desk{Case: api.Case{Mark: []int{most, 1}, Busy: []int{0, 0}}, Items: []api.Item{{}}}
	checkPlay(t, "ended", n, 0, staff(), append(ops, end(0, 0)), ended, append(answers, api.DeskAns{}))
}

// book is what the promises' words make of ops: what was done in the case, one behind the other, and the items.
type book struct {
	n     api.Net
	i     int
	roles [][]int
	done  []api.CaseOp
	items []api.Item
}

// told is one op by the promises' words, sentence by sentence.
func (b *book) told(op api.DeskOp) api.DeskAns {
	refused := func(e api.Errno) api.DeskAns { return api.DeskAns{Err: e} }
	if op.Kind < 1 || op.Kind > 5 {
		return refused(api.ErrKind)
	}
	if op.Kind == api.DeskSkip {
		return refused(b.write(api.CaseSkip, op.Tran))
	}
	if op.Kind == api.DeskBegin {
		if op.Tran < 0 || op.Tran >= len(b.n.Trans) {
			return refused(api.ErrNone)
		}
		if !b.may(op.User, op.Tran) {
			return refused(api.ErrRole)
		}
		if e := b.write(api.CaseBegin, op.Tran); e != api.OK {
			return refused(e)
		}
		b.items = append(b.items, api.Item{User: op.User, Tran: op.Tran, Open: true})
		return api.DeskAns{Item: len(b.items) - 1}
	}
	if op.Item < 0 || op.Item >= len(b.items) || !b.items[op.Item].Open {
		return refused(api.ErrNone)
	}
	item := b.items[op.Item]
	if item.User != op.User {
		return refused(api.ErrHeld)
	}
	if op.Kind == api.DeskGive {
		if !b.may(op.To, item.Tran) {
			return refused(api.ErrRole)
		}
		b.items[op.Item].User = op.To
		return api.DeskAns{Item: op.Item}
	}
	kind := map[int]int{api.DeskEnd: api.CaseEnd, api.DeskUndo: api.CaseUndo}[op.Kind]
	if e := b.write(kind, item.Tran); e != api.OK {
		return refused(e)
	}
	b.items[op.Item].Open = false
	return api.DeskAns{Item: op.Item}
}

func (b *book) may(user, tran int) bool {
	return user >= 0 && user < min(len(b.roles), 8) && slices.Contains(b.roles[user], b.n.Trans[tran].Label)
}

// write answers the error of what is done behind all that was done.
func (b *book) write(kind, tran int) api.Errno {
	ops := append(b.done, api.CaseOp{Kind: kind, Tran: tran})
	_, errs, _ := cases.Play(b.n, b.i, ops)
	if e := errs[len(errs)-1]; e != api.OK {
		return e
	}
	b.done = ops
	return api.OK
}

func (b *book) desk() api.Desk {
	c, _, _ := cases.Play(b.n, b.i, b.done)
	return api.Desk{Case: c, Items: b.items}
}

// agrees holds Play of ops against the promises' words, and counts what came of them.
func agrees(t *testing.T, n api.Net, i int, roles [][]int, ops []api.DeskOp, came map[api.DeskAns]int) api.Desk {
	t.Helper()
	b := &book{n: n, i: i, roles: roles}
	var answers []api.DeskAns
	for _, op := range ops {
		a := b.told(op)
		answers = append(answers, a)
		came[api.DeskAns{Err: a.Err, Item: op.Kind}]++
	}
	got, gotAnswers, err := Play(n, i, roles, ops)
	if !sameDesk(got, b.desk()) || !slices.Equal(gotAnswers, answers) || err != api.OK {
		t.Fatalf("%v at %d, %v, %v: %v, %v, %d, not %v, %v", n, i, roles, ops, got, gotAnswers, err, b.desk(), answers)
	}
	return got
}

// All rows of three ops of some forty, behind what makes them possible.
func TestAllSmallRows(t *testing.T) {
	var some []api.DeskOp
	for user := range 3 {
		for tran := -1; tran <= 4; tran++ {
			some = append(some, begin(user, tran))
		}
		for item := range 2 {
			some = append(some, end(user, item), undo(user, item), give(user, item, 0), give(user, item, 2))
		}
	}
	some = append(some, skip(0), skip(1), api.DeskOp{Kind: 6})
	came := map[api.DeskAns]int{}
	roles := [][]int{{1}, {2, 0}, {1, 2}}
	for k := range len(some) * len(some) * len(some) {
		ops := []api.DeskOp{skip(0), some[k%len(some)], some[k/len(some)%len(some)], some[k/len(some)/len(some)]}
		agrees(t, fork(), 0, roles, ops, came)
	}
	enough(t, came, 100)
}

// enough asks for each answer that each kind can come to by small numbers.
func enough(t *testing.T, came map[api.DeskAns]int, least int) {
	t.Helper()
	for kind, errs := range map[int][]api.Errno{
		6:             {api.ErrKind},
		api.DeskBegin: {api.OK, api.ErrNone, api.ErrRole, api.ErrForm},
		api.DeskEnd:   {api.OK, api.ErrNone, api.ErrHeld},
		api.DeskUndo:  {api.OK, api.ErrNone, api.ErrHeld},
		api.DeskGive:  {api.OK, api.ErrNone, api.ErrHeld, api.ErrRole},
		api.DeskSkip:  {api.OK, api.ErrNone, api.ErrForm},
	} {
		for _, e := range errs {
			if many := came[api.DeskAns{Err: e, Item: kind}]; many < least {
				t.Errorf("kind %d came to %d %d times: too few to tell", kind, e, many)
			}
		}
	}
}

// many makes nets of one to five places and up to six transitions, with up to ten users.
func many(count int, each func(n api.Net, roles [][]int, next func(below int) int)) {
	seed := uint32(17)
	next := func(below int) int {
		seed = seed*1664525 + 1013904223
		return int(seed>>8) % below
	}
	weights := func(places, most int) []int {
		l := make([]int, places)
		for range next(most + 1) {
			l[next(places)] = next(3)
		}
		return l
	}
	for range count {
		n := made(1 + next(5))
		for range next(7) {
			n.Trans = append(n.Trans, api.Tran{Label: next(4), Pre: weights(n.Places, 2), Post: weights(n.Places, 4)})
		}
		roles := make([][]int, next(11))
		for user := range roles {
			for range next(12) {
				roles[user] = append(roles[user], next(6)-1)
			}
		}
		each(n, roles, next)
	}
}

// someOps are mostly such as can be done now and then.
func someOps(n api.Net, next func(below int) int, count int) []api.DeskOp {
	var ops []api.DeskOp
	users, begun := 1+next(3)*next(6), 0
	for range count {
		o := api.DeskOp{Kind: next(7), User: next(users), Tran: next(len(n.Trans)+2) - 1, To: next(users + 3)}
		if next(3) == 0 {
			o.Kind = api.DeskBegin
		}
		if o.Kind == api.DeskBegin {
			begun++
		}
		o.Item = next(begun/3+2) - next(2)
		ops = append(ops, o)
	}
	return ops
}

// Greater nets: Play is what the promises' words say, and what goes on somebody has.
func TestManyNets(t *testing.T) {
	came := map[api.DeskAns]int{}
	many(15000, func(n api.Net, roles [][]int, next func(below int) int) {
		ops := someOps(n, next, 50)
		got := agrees(t, n, next(n.Places), roles, ops, came)
		open := make([]int, len(n.Trans))
		for _, x := range got.Items {
			if x.Open {
				open[x.Tran]++
			}
			if b := (&book{n: n, roles: roles}); !b.may(x.User, x.Tran) {
				t.Fatalf("%v, %v: %v has what that one may not do", n, roles, x)
			}
		}
		if !slices.Equal(open, got.Case.Busy) {
			t.Fatalf("%v: %v go on, and %v are open", n, got.Case.Busy, open)
		}
	})
	enough(t, came, 500)
}

// An office goes op by op as Play goes, and one that is copied at its beginning begins there again.
func TestOffice(t *testing.T) {
	done := 0
	many(1000, func(n api.Net, roles [][]int, next func(below int) int) {
		i, ops := next(n.Places), someOps(n, next, 30)
		first, err := Open(n, i, roles)
		if err != api.OK {
			t.Fatalf("%v at %d: %d", n, i, err)
		}
		for range 2 {
			now := first
			for k, op := range ops {
				a := now.Do(op)
				want, answers, _ := Play(n, i, roles, ops[:k+1])
				if a != answers[k] || !sameDesk(now.Desk, want) {
					t.Fatalf("%v at %d, %v, op %d of %v: %v, %v, not %v, %v", n, i, roles, k, ops, a, now.Desk, answers[k], want)
				}
			}
			done += len(now.Desk.Items)
		}
	})
	if done < 1000 {
		t.Errorf("%d items: too few to tell", done)
	}
	if o, err := Open(row(), 4, staff()); err != api.ErrNone || !reflect.DeepEqual(o, Office{}) {
		t.Errorf("no place to begin at: %v, %d", o, err)
	}
}

// Whoever opened an office may change what was handed in: it goes on as it was opened.
func TestOfficeKeepsNothing(t *testing.T) {
	n, roles := row(), staff()
	o, _ := Open(n, 0, roles)
	for k := range n.Trans {
		n.Trans[k].Pre[0], n.Trans[k].Post[1] = 9, 9
	}
	n.Trans[0].Label, roles[0][0] = 9, 9
	n.Trans[2] = api.Tran{}
	for _, op := range []api.DeskOp{begin(0, 0), end(0, 0), skip(1), begin(1, 2), end(1, 1)} {
		if a := o.Do(op); a.Err != api.OK {
			t.Errorf("%v: %v", op, a)
		}
	}
	if !slices.Equal(o.Desk.Case.Mark, one(4, 3)) {
		t.Errorf("%v", o.Desk)
	}
}

// Without what had an error all else is answered as with it.
func TestErrorsChangeNothing(t *testing.T) {
	left := 0
	many(2000, func(n api.Net, roles [][]int, next func(below int) int) {
		i, ops := next(n.Places), someOps(n, next, 50)
		want, answers, _ := Play(n, i, roles, ops)
		var did []api.DeskOp
		var good []api.DeskAns
		for k, a := range answers {
			if a.Err == api.OK {
				did, good = append(did, ops[k]), append(good, a)
			}
			if a.Err != api.OK && a.Item != 0 {
				t.Fatalf("%v: beside an error %v", ops[k], a)
			}
		}
		left += len(did)
		checkPlay(t, fmt.Sprint(n), n, i, roles, did, want, good)
	})
	if left < 5000 {
		t.Errorf("%d were done: too few to tell", left)
	}
}

// Nothing is kept from call to call: the same call answers the same, whatever was called between.
func TestNothingIsKept(t *testing.T) {
	ops := []api.DeskOp{skip(0), begin(0, 1), begin(1, 2), give(0, 0, 2), end(1, 1)}
	want, answers, _ := Play(fork(), 0, staff(), ops)
	_, _, _ = Play(row(), 0, [][]int{{1, 2}, {1, 2}, {1, 2}}, []api.DeskOp{begin(1, 0), end(1, 0)})
	checkPlay(t, "once more", fork(), 0, staff(), ops, want, answers)

	n, roles, in := fork(), staff(), slices.Clone(ops)
	got, came, _ := Play(n, 0, roles, in)
	for _, x := range n.Trans {
		for p := range x.Pre {
			x.Pre[p], x.Post[p] = 9, 9
		}
	}
	roles[0][0], n.Trans[1].Label = 9, 9
	clear(in)
	if !sameDesk(got, want) || !slices.Equal(came, answers) {
		t.Errorf("what was handed in was changed later: %v, %v, not %v, %v", got, came, want, answers)
	}
}

// Whoever changes an answer, or goes on behind the end of its lists, changes neither another list nor what was handed in.
func TestAnswersAreNew(t *testing.T) {
	n, roles := fork(), staff()
	ops := []api.DeskOp{skip(0), begin(0, 1), begin(1, 2), end(0, 0)}
	want, answers, _ := Play(n, 0, roles, ops)
	for _, in := range [][]api.DeskOp{ops, nil} {
		got, came, _ := Play(n, 0, roles, in)
		_ = append(got.Case.Mark, 88)
		_ = append(got.Case.Busy, 88)
		_, _ = append(got.Items, api.Item{User: 88}), append(came, api.DeskAns{Item: 88})
		for p := range got.Case.Mark {
			got.Case.Mark[p] = 99
		}
		if slices.Contains(got.Case.Busy, 99) || slices.Contains(got.Case.Busy, 88) {
			t.Errorf("Mark and Busy share memory: %v", got)
		}
		for p := range got.Case.Busy {
			got.Case.Busy[p] = 77
		}
		if slices.Contains(got.Case.Mark, 77) {
			t.Errorf("Busy and Mark share memory: %v", got)
		}
		clear(got.Items)
		clear(came)
	}
	if !reflect.DeepEqual(n, fork()) || !reflect.DeepEqual(roles, staff()) || !slices.Equal(ops, []api.DeskOp{skip(0), begin(0, 1), begin(1, 2), end(0, 0)}) {
		t.Errorf("what was handed in was changed: %v, %v, %v", n, roles, ops)
	}
	checkPlay(t, "once more", n, 0, roles, ops, want, answers)
}

// Behind the end of a list there may be spare room: it is neither looked at nor changed.
func TestSpareRoom(t *testing.T) {
	spare := func(l ...int) []int { return append(l, 1, 2, -77)[:len(l)] }
	n := fork()
	for k, x := range n.Trans {
		n.Trans[k].Pre, n.Trans[k].Post = spare(x.Pre...), spare(x.Post...)
	}
	trans := append(n.Trans, api.Tran{Label: 1, Pre: one(4), Post: one(4)})
	n.Trans = trans[:4]
	all := [][]int{spare(1), spare(), spare(2), {1, 2}}
	ops := []api.DeskOp{skip(0), begin(0, 1), begin(0, 2), begin(1, 1), begin(1, 2), begin(3, 1), begin(2, 2), begin(0, 4), end(0, 0), end(2, 1)}
	want := api.Desk{Case: api.Case{Mark: one(4, 2), Busy: one(4, 2)}, Items: []api.Item{{User: 0, Tran: 1}, {User: 2, Tran: 2, Open: true}}}
	checkPlay(t, "spare room", n, 0, all[:3], ops[:9], want,
		[]api.DeskAns{{}, {}, {Err: api.ErrRole}, {Err: api.ErrRole}, {Err: api.ErrRole}, {Err: api.ErrRole}, {Item: 1}, {Err: api.ErrNone}, {}})
	lists := slices.Clone(all[:3])
	for _, x := range n.Trans {
		lists = append(lists, x.Pre, x.Post)
	}
	for k, l := range lists {
		if !slices.Equal(l[:len(l)+3][len(l):], []int{1, 2, -77}) {
			t.Errorf("list %d: the room behind it was changed: %v", k, l[:len(l)+3])
		}
	}
	if !slices.Equal(all[3], []int{1, 2}) || ops[9] != end(2, 1) || !reflect.DeepEqual(trans[4], api.Tran{Label: 1, Pre: one(4), Post: one(4)}) {
		t.Errorf("the room behind was changed: %v, %v, %v", all, ops, trans)
	}
}

// nil and empty lists are the same, and one list may be handed in for several things.
func TestListsAlike(t *testing.T) {
	for _, n := range []api.Net{{Places: 1}, {Places: 1, Trans: []api.Tran{}}} {
		for _, roles := range [][][]int{nil, {}, {nil}, {{}}} {
			for _, ops := range [][]api.DeskOp{nil, {}} {
				checkPlay(t, "nothing", n, 0, roles, ops, api.Desk{Case: api.Case{Mark: []int{1}}}, nil)
			}
			checkPlay(t, "nothing can be done", n, 0, roles, []api.DeskOp{begin(0, 0), end(0, 0), skip(0)}, api.Desk{Case: api.Case{Mark: []int{1}}},
				[]api.DeskAns{{Err: api.ErrNone}, {Err: api.ErrNone}, {Err: api.ErrNone}})
		}
	}
	l := []int{1, 0}
	n := made(2, api.Tran{Label: 1, Pre: l, Post: l}, api.Tran{Pre: l, Post: l})
	want := api.Desk{Case: api.Case{Mark: []int{1, 0}, Busy: []int{0, 0}}, Items: []api.Item{{User: 1}}}
	checkPlay(t, "one list", n, 0, [][]int{l, l}, []api.DeskOp{begin(0, 0), give(0, 0, 1), skip(1), end(1, 0), skip(1)}, want,
		[]api.DeskAns{{}, {}, {Err: api.ErrNone}, {}, {}})
	if !slices.Equal(l, []int{1, 0}) {
		t.Errorf("the list was changed: %v", l)
	}
}

// The largest net, with roles of many labels, is worked off in good time.
func TestMuch(t *testing.T) {
	n := made(api.MaxPlaces)
	for k := range api.MaxTrans {
		n.Trans = append(n.Trans, api.Tran{Label: 1 + k, Pre: one(api.MaxPlaces, 0), Post: one(api.MaxPlaces, 0)})
	}
	roles := slices.Repeat([][]int{append(slices.Repeat([]int{27}, 1000000), 24)}, api.MaxUsers)
	var ops []api.DeskOp
	for k := range 20000 {
		ops = append(ops, begin(k%8, 23), give(k%8, k, (k+1)%8), end((k+1)%8, k))
	}
	got, answers, err := Play(n, 0, roles, ops)
	if err != api.OK || len(got.Items) != 20000 || !slices.Equal(got.Case.Mark, one(api.MaxPlaces, 0)) {
		t.Fatalf("%d items, %v, %d", len(got.Items), got.Case, err)
	}
	for k, a := range answers {
		if a != (api.DeskAns{Item: k / 3}) {
			t.Fatalf("op %d: %v", k, a)
		}
	}
}

func ExamplePlay() {
	n := api.Net{Places: 2, Trans: []api.Tran{{Label: 1, Pre: []int{1, 0}, Post: []int{0, 1}}}}
	roles := [][]int{{1}, nil, {1}}
	d, answers, err := Play(n, 0, roles, []api.DeskOp{
		{Kind: api.DeskBegin, User: 1, Tran: 0},
		{Kind: api.DeskBegin, User: 0, Tran: 0},
		{Kind: api.DeskGive, User: 0, Item: 0, To: 2},
		{Kind: api.DeskEnd, User: 0, Item: 0},
		{Kind: api.DeskEnd, User: 2, Item: 0},
	})
	fmt.Println(d, answers, err)
	// Output: {{[0 1] [0]} [{2 0 false}]} [{6 0} {0 0} {0 0} {7 0} {0 0}] 0
}
