package hall

import (
	"fmt"
	"math"
	"reflect"
	"slices"
	"testing"

	"tokenhall/api"
	"tokenhall/desk"
)

// made is a net of so many places and these transitions.
func made(places int, trans ...api.Tran) api.Net {
	return api.Net{Places: places, Trans: trans}
}

// one has one token at each of these places of so many.
func one(places int, these ...int) []int {
	l := make([]int, places)
	for _, p := range these {
		l[p]++
	}
	return l
}

// row is label 1 from place 0 to place 1, what nobody sees from there to place 2, and label 2 from there to place 3.
func row() api.Net {
	return made(4,
		api.Tran{Label: 1, Pre: one(4, 0), Post: one(4, 1)},
		api.Tran{Pre: one(4, 1), Post: one(4, 2)},
		api.Tran{Label: 2, Pre: one(4, 2), Post: one(4, 3)})
}

// ring is label 1 from place 0 back to it.
func ring() api.Net {
	return made(1, api.Tran{Label: 1, Pre: []int{1}, Post: []int{1}})
}

// staff may do label 1, label 2, both and nothing, one user each.
func staff() [][]int {
	return [][]int{{1}, {2}, {2, 1}, nil}
}

func do(op api.DeskOp) api.HallOp {
	return api.HallOp{Kind: api.HallDo, Op: op}
}

func begin(user, tran int) api.HallOp {
	return do(api.DeskOp{Kind: api.DeskBegin, User: user, Tran: tran})
}

func end(user, item int) api.HallOp {
	return do(api.DeskOp{Kind: api.DeskEnd, User: user, Item: item})
}

func undo(user, item int) api.HallOp {
	return do(api.DeskOp{Kind: api.DeskUndo, User: user, Item: item})
}

func give(user, item, to int) api.HallOp {
	return do(api.DeskOp{Kind: api.DeskGive, User: user, Item: item, To: to})
}

func skip(tran int) api.HallOp {
	return do(api.DeskOp{Kind: api.DeskSkip, Tran: tran})
}

func sync() api.HallOp {
	return api.HallOp{Kind: api.HallSync}
}

func crash(keep int) api.HallOp {
	return api.HallOp{Kind: api.HallCrash, Keep: keep}
}

// sameDesk holds nil and empty lists to be the same.
func sameDesk(a, b api.Desk) bool {
	return slices.Equal(a.Case.Mark, b.Case.Mark) && slices.Equal(a.Case.Busy, b.Case.Busy) && slices.Equal(a.Items, b.Items)
}

// checkPlay holds the whole of what Play answers, without an error of its own, against what must come.
func checkPlay(t *testing.T, what string, n api.Net, i int, roles [][]int, ops []api.HallOp, want api.Desk, answers []api.DeskAns) {
	t.Helper()
	got, came, err := Play(n, i, roles, ops)
	if !sameDesk(got, want) || !slices.Equal(came, answers) || err != api.OK {
		t.Errorf("%s: %v, %v, %d, not %v, %v", what, got, came, err, want, answers)
	}
}

// checkLeft holds the desk at the end against the one at which left alone was done.
func checkLeft(t *testing.T, what string, ops []api.HallOp, left ...api.HallOp) {
	t.Helper()
	var plain []api.DeskOp
	for _, op := range left {
		plain = append(plain, op.Op)
	}
	want, answers, _ := desk.Play(row(), 0, staff(), plain)
	if slices.ContainsFunc(answers, func(a api.DeskAns) bool { return a.Err != api.OK }) {
		t.Fatalf("%s: %v comes to %v", what, left, answers)
	}
	if got, _, err := Play(row(), 0, staff(), ops); !sameDesk(got, want) || err != api.OK {
		t.Errorf("%s: %v, %d, not %v", what, got, err, want)
	}
}

func TestPlay(t *testing.T) {
	for _, c := range []struct {
		what    string
		i       int
		ops     []api.HallOp
		mark    []int
		busy    []int
		items   []api.Item
		answers []api.DeskAns
	}{
		{"nothing happens", 0, nil, one(4, 0), one(3), nil, nil},
		{"nothing happens elsewhere", 3, []api.HallOp{}, one(4, 3), one(3), nil, nil},
		{"as at a desk", 0, []api.HallOp{begin(0, 0), give(0, 0, 2), end(2, 0), skip(1), begin(1, 2), undo(1, 1), begin(2, 2)},
			one(4), one(3, 2), []api.Item{{User: 2, Tran: 0}, {User: 1, Tran: 2}, {User: 2, Tran: 2, Open: true}},
			[]api.DeskAns{{}, {}, {}, {}, {Item: 1}, {Item: 1}, {Item: 2}}},
		{"what is sure changes nothing", 0, []api.HallOp{sync(), begin(0, 0), sync(), sync(), end(0, 0), sync()},
			one(4, 1), one(3), []api.Item{{User: 0, Tran: 0}}, make([]api.DeskAns, 6)},
		{"a crash with nothing written", 2, []api.HallOp{crash(0), crash(-1), crash(100)},
			one(4, 2), one(3), nil, make([]api.DeskAns, 3)},
		{"the document's nineteenth example: of seven bytes six are left", 0, []api.HallOp{begin(0, 0), crash(6)},
			one(4, 0), one(3), nil, make([]api.DeskAns, 2)},
		{"all seven are left", 0, []api.HallOp{begin(0, 0), crash(7)},
			one(4), one(3, 0), []api.Item{{User: 0, Tran: 0, Open: true}}, make([]api.DeskAns, 2)},
		{"what was lost can be done again, as if it had not been", 0, []api.HallOp{begin(0, 0), crash(0), begin(2, 0), end(2, 0)},
			one(4, 1), one(3), []api.Item{{User: 2, Tran: 0}}, make([]api.DeskAns, 4)},
		{"what was lost can't be ended", 0, []api.HallOp{begin(0, 0), crash(0), end(0, 0)},
			one(4, 0), one(3), nil, []api.DeskAns{{}, {}, {Err: api.ErrNone}}},
		{"who has it again is who had it", 0, []api.HallOp{begin(0, 0), sync(), give(0, 0, 2), crash(0), end(2, 0), end(0, 0)},
			one(4, 1), one(3), []api.Item{{User: 0, Tran: 0}}, []api.DeskAns{{}, {}, {}, {}, {Err: api.ErrHeld}, {}}},
		{"it is open again", 0, []api.HallOp{begin(0, 0), sync(), end(0, 0), crash(3), undo(0, 0)},
			one(4, 0), one(3), []api.Item{{User: 0, Tran: 0}}, make([]api.DeskAns, 5)},
		{"items have the numbers again that they had", 0, []api.HallOp{begin(0, 0), undo(0, 0), sync(), begin(0, 0), crash(0), begin(2, 0)},
			one(4), one(3, 0), []api.Item{{User: 0, Tran: 0}, {User: 2, Tran: 0, Open: true}}, []api.DeskAns{{}, {}, {}, {Item: 1}, {}, {Item: 1}}},
		{"what has an error is not done", 0, []api.HallOp{begin(1, 0), end(0, 0), skip(0), {}, begin(0, 0), end(2, 0)},
			one(4), one(3, 0), []api.Item{{User: 0, Tran: 0, Open: true}},
			[]api.DeskAns{{Err: api.ErrRole}, {Err: api.ErrNone}, {Err: api.ErrForm}, {Err: api.ErrKind}, {}, {Err: api.ErrHeld}}},
	} {
		want := api.Desk{Case: api.Case{Mark: c.mark, Busy: c.busy}, Items: c.items}
		checkPlay(t, c.what, row(), c.i, staff(), c.ops, want, c.answers)
	}
}

// Of three that were done as many are left as have all their seven bytes, whatever is sure ahead of them.
func TestEachKeep(t *testing.T) {
	all := []api.HallOp{begin(0, 0), end(0, 0), skip(1), begin(1, 2), give(1, 1, 2), end(2, 1)}
	for sure := range len(all) + 1 {
		ahead := append(slices.Clone(all[:sure]), sync())
		ops := append(ahead, all[sure:]...)
		for keep := -3; keep <= 7*len(all)+3; keep++ {
			left := sure
			if keep > 0 {
				left = min(sure+keep/7, len(all))
			}
			checkLeft(t, fmt.Sprint(sure, " sure, keep ", keep), append(slices.Clone(ops), crash(keep)), all[:left]...)
		}
		for _, keep := range []int{math.MinInt, math.MinInt + 1, -1 << 32, -7, -14} {
			checkLeft(t, fmt.Sprint(sure, " sure, keep ", keep), append(slices.Clone(ops), crash(keep)), all[:sure]...)
		}
		for _, keep := range []int{math.MaxInt, math.MaxInt - 1, math.MaxInt - 7, 1 << 32, 7 * len(all)} {
			checkLeft(t, fmt.Sprint(sure, " sure, keep ", keep), append(slices.Clone(ops), crash(keep)), all...)
		}
	}
}

func TestCrashes(t *testing.T) {
	b, e, s := begin(0, 0), end(0, 0), skip(1)
	for _, c := range []struct {
		what string
		ops  []api.HallOp
		left []api.HallOp
	}{
		{"nothing was sure", []api.HallOp{b, e, s, crash(0)}, nil},
		{"all was sure", []api.HallOp{b, e, s, sync(), crash(0)}, []api.HallOp{b, e, s}},
		{"what came behind is not sure", []api.HallOp{b, sync(), e, s, crash(0)}, []api.HallOp{b}},
		{"Keep counts from what is sure on", []api.HallOp{b, sync(), e, s, crash(7)}, []api.HallOp{b, e}},
		{"what a crash left is sure", []api.HallOp{b, e, s, crash(14), crash(0)}, []api.HallOp{b, e}},
		{"what a crash left is sure, and what came behind is not", []api.HallOp{b, e, crash(7), e, s, crash(8)}, []api.HallOp{b, e}},
		{"bytes that tell nothing whole are gone", []api.HallOp{b, e, crash(10), e, s, crash(14), crash(0)}, []api.HallOp{b, e, s}},
		{"bytes that tell nothing whole are gone, and are not sure", []api.HallOp{b, e, crash(13), e, s, crash(13)}, []api.HallOp{b, e}},
		{"bytes that tell nothing whole are gone, from the first one on", []api.HallOp{b, crash(1), b, sync(), crash(0)}, []api.HallOp{b}},
		{"bytes that are gone do not come again", []api.HallOp{b, e, s, crash(7), crash(21)}, []api.HallOp{b}},
		{"what is sure twice is as sure", []api.HallOp{b, sync(), sync(), e, crash(0)}, []api.HallOp{b}},
		{"sure, and lost, and sure", []api.HallOp{b, sync(), e, crash(-1), e, s, sync(), crash(-1)}, []api.HallOp{b, e, s}},
		{"what has an error has no bytes", []api.HallOp{e, b, b, end(2, 0), e, s, crash(14)}, []api.HallOp{b, e}},
		{"what can't be written has no bytes", []api.HallOp{do(api.DeskOp{Kind: api.DeskBegin, To: 256}), b, e, crash(7)}, []api.HallOp{b}},
		{"what is no kind has no bytes, and is not sure", []api.HallOp{b, {}, {Kind: 4}, e, crash(0)}, nil},
		{"crash upon crash", []api.HallOp{b, crash(7), crash(7), e, crash(7), crash(6), s, crash(6), crash(7)}, []api.HallOp{b, e}},
	} {
		checkLeft(t, c.what, c.ops, c.left...)
	}
}

// farNumbers are no kinds, users, items, transitions or places of the small nets here.
func farNumbers() []int {
	return []int{-1, -2, 9, 256, 1 << 32, -1 << 32, 1<<32 + 1, 1<<32 + 2, 1<<32 + 3, math.MinInt, math.MaxInt}
}

// fields are the numbers of an op, and the greatest ones that can be written.
func fields(o *api.DeskOp) ([]*int, []int) {
	return []*int{&o.Kind, &o.User, &o.Tran, &o.To, &o.Item}, []int{255, 255, 255, 255, 65535}
}

// What can't be written is refused ahead of all that the desk says of it, and is not done.
func TestErrRange(t *testing.T) {
	open := api.Desk{Case: api.Case{Mark: one(4), Busy: one(3, 0)}, Items: []api.Item{{User: 0, Tran: 0, Open: true}}}
	for kind := 0; kind <= 6; kind++ {
		for k := range 5 {
			for _, x := range []int{-1, -256, 65536, 1 << 32, -1 << 32, math.MinInt, math.MaxInt} {
				op := api.DeskOp{Kind: kind}
				numbers, _ := fields(&op)
				*numbers[k] = x
				checkPlay(t, fmt.Sprint(op), row(), 0, staff(), []api.HallOp{begin(0, 0), do(op), crash(14), do(op)}, open,
					[]api.DeskAns{{}, {Err: api.ErrRange}, {}, {Err: api.ErrRange}})
			}
			op := api.DeskOp{Kind: kind}
			numbers, greatest := fields(&op)
			*numbers[k] = greatest[k] + 1
			checkPlay(t, fmt.Sprint(op), row(), 0, staff(), []api.HallOp{begin(0, 0), do(op)}, open, []api.DeskAns{{}, {Err: api.ErrRange}})
			*numbers[k] = greatest[k]
			_, answers, _ := Play(row(), 0, staff(), []api.HallOp{begin(0, 0), do(op)})
			_, plain, _ := desk.Play(row(), 0, staff(), []api.DeskOp{begin(0, 0).Op, op})
			if !slices.Equal(answers, plain) || answers[1].Err == api.ErrRange {
				t.Errorf("%v can be written: %v, not %v", op, answers, plain)
			}
		}
	}
}

// Fields that a desk's kind has not mean nothing to the desk, but are written: they come through a crash if they can be.
func TestOtherFieldsAreWritten(t *testing.T) {
	b := do(api.DeskOp{Kind: api.DeskBegin, Item: 65535, To: 255})
	e := do(api.DeskOp{Kind: api.DeskEnd, Tran: 255, To: 255})
	s := do(api.DeskOp{Kind: api.DeskSkip, User: 255, Tran: 1, Item: 65535, To: 255})
	for keep := range 23 {
		left := []api.HallOp{begin(0, 0), end(0, 0), skip(1)}[:min(keep/7, 3)]
		checkLeft(t, fmt.Sprint("keep ", keep), []api.HallOp{b, e, s, crash(keep), crash(0)}, left...)
	}
}

// ErrKind, whatever else stands there; what is sure stays so, and what is not, too.
func TestNoSuchKind(t *testing.T) {
	for _, kind := range append(farNumbers(), 0, 4, 5, 6, 7) {
		for _, keep := range []int{-1, 0, 7, math.MaxInt, math.MinInt} {
			for _, op := range []api.DeskOp{{}, end(0, 0).Op, {Kind: api.DeskBegin, To: 256}, {Kind: 99}} {
				strange := api.HallOp{Kind: kind, Keep: keep, Op: op}
				checkPlay(t, fmt.Sprint(strange), row(), 0, staff(), []api.HallOp{strange, begin(0, 0), strange, sync(), end(0, 0), strange, crash(0), strange},
					api.Desk{Case: api.Case{Mark: one(4), Busy: one(3, 0)}, Items: []api.Item{{User: 0, Tran: 0, Open: true}}},
					[]api.DeskAns{{Err: api.ErrKind}, {}, {Err: api.ErrKind}, {}, {}, {Err: api.ErrKind}, {}, {Err: api.ErrKind}})
			}
		}
	}
}

// Fields that a kind has not mean nothing.
func TestOtherFields(t *testing.T) {
	ops := []api.HallOp{begin(0, 0), sync(), give(0, 0, 2), end(2, 0), skip(1), crash(14), skip(1), crash(6)}
	want, answers, _ := Play(row(), 0, staff(), ops)
	strange := []api.DeskOp{{}, begin(0, 0).Op, {Kind: -1, User: -1, Tran: -1, Item: -1, To: -1}, {Kind: api.DeskEnd, User: 2, Item: 65536}}
	for _, x := range append(farNumbers(), 0, 1, 7) {
		for _, op := range strange {
			other := slices.Clone(ops)
			for k := range other {
				o := &other[k]
				if o.Kind != api.HallCrash {
					o.Keep = x
				}
				if o.Kind != api.HallDo {
					o.Op = op
				}
			}
			checkPlay(t, fmt.Sprint("with ", x, " and ", op), row(), 0, staff(), other, want, answers)
		}
	}
}

// The errors of desk.Play are told first, and beside them nothing.
func TestErrorsOfTheBeginning(t *testing.T) {
	label := row()
	label.Trans[2].Label = api.MaxLabel + 1
	short := row()
	short.Trans[1].Post = one(3)
	nets := []api.Net{row(), label, short, {}, {Places: -1}, {Places: api.MaxPlaces}, {Places: api.MaxPlaces + 1}}
	refused := 0
	for _, n := range nets {
		for _, i := range append(farNumbers(), 0, 3, 4, api.MaxPlaces-1, api.MaxPlaces) {
			_, _, want := desk.Play(n, i, staff(), nil)
			for _, ops := range [][]api.HallOp{nil, {begin(0, 0), sync(), crash(0), {}}} {
				got, answers, err := Play(n, i, staff(), ops)
				if err != want {
					t.Errorf("%v at %d: %d, not %d", n, i, err, want)
				}
				if err != api.OK && (!reflect.DeepEqual(got, api.Desk{}) || len(answers) != 0) {
					t.Errorf("%v at %d: beside %d stand %v, %v", n, i, err, got, answers)
				}
				if err == api.OK && len(answers) != len(ops) {
					t.Errorf("%v at %d: %d answers of %d", n, i, len(answers), len(ops))
				}
			}
			if want != api.OK {
				refused++
			}
		}
	}
	if refused < 80 {
		t.Errorf("%d beginnings refused: too few to tell", refused)
	}
}

// Items above 65535 can be begun, and come through a crash; but nobody can write that they were ended.
func TestItemsBeyondWhatIsWritten(t *testing.T) {
	var ops []api.HallOp
	var answers []api.DeskAns
	for k := range 65536 {
		ops = append(ops, begin(0, 0), undo(0, k))
		answers = append(answers, api.DeskAns{Item: k}, api.DeskAns{Item: k})
	}
	ops = append(ops, begin(0, 0), end(0, 65536), undo(0, 65536), give(0, 65536, 2), crash(7*2*65536+7), end(0, 65536))
	refused := api.DeskAns{Err: api.ErrRange}
	answers = append(answers, api.DeskAns{Item: 65536}, refused, refused, refused, api.DeskAns{}, refused)
	want := api.Desk{Case: api.Case{Mark: []int{0}, Busy: []int{1}}, Items: make([]api.Item, 65537)}
	want.Items[65536].Open = true
	got, came, err := Play(ring(), 0, staff(), ops)
	if err != api.OK || !slices.Equal(came, answers) || !sameDesk(got, want) {
		t.Errorf("%v, %v, %d of %d items, %d", came[len(came)-7:], got.Case, len(got.Items), len(want.Items), err)
	}
}

// What has no room is refused, and has no bytes.
func TestWithoutRoom(t *testing.T) {
	free := made(1, api.Tran{Label: 1, Pre: []int{0}, Post: []int{9}}, api.Tran{Pre: []int{0}, Post: []int{9}})
	fill := (api.MaxTokens - 1) / 9
	ops := append([]api.HallOp{begin(0, 0)}, slices.Repeat([]api.HallOp{skip(1)}, fill)...)
	ops = append(ops, end(0, 0), skip(1), give(0, 0, 2), crash(7*(1+fill)))
	answers := make([]api.DeskAns, 1+fill)
	answers = append(answers, api.DeskAns{Err: api.ErrFull}, api.DeskAns{Err: api.ErrFull}, api.DeskAns{}, api.DeskAns{})
	want := api.Desk{Case: api.Case{Mark: []int{1 + 9*fill}, Busy: []int{1, 0}}, Items: []api.Item{{User: 0, Open: true}}}
	checkPlay(t, "no room", free, 0, staff(), ops, want, answers)
}

// book is what the promise's words make of ops: what stands in the journal, and how many bytes of it are sure.
type book struct {
	n     api.Net
	i     int
	roles [][]int
	done  []api.DeskOp
	sure  int
}

// told is one op by the promise's words, sentence by sentence.
func (b *book) told(op api.HallOp) api.DeskAns {
	bytes := 7 * len(b.done)
	switch op.Kind {
	case api.HallDo:
		return b.toldDo(op.Op)
	case api.HallSync:
		b.sure = bytes
	case api.HallCrash:
		left := b.sure
		for at := b.sure; at < bytes && at-b.sure < op.Keep; at++ {
			left++
		}
		for 7*len(b.done) > left {
			b.done = b.done[:len(b.done)-1]
		}
		b.sure = 7 * len(b.done)
	default:
		return api.DeskAns{Err: api.ErrKind}
	}
	return api.DeskAns{}
}

func (b *book) toldDo(op api.DeskOp) api.DeskAns {
	numbers, greatest := fields(&op)
	for k, x := range numbers {
		if *x < 0 || *x > greatest[k] {
			return api.DeskAns{Err: api.ErrRange}
		}
	}
	ops := append(slices.Clone(b.done), op)
	_, answers, _ := desk.Play(b.n, b.i, b.roles, ops)
	last := answers[len(answers)-1]
	if last.Err == api.OK {
		b.done = ops
	}
	return last
}

// agrees holds Play of ops against the promise's words, and counts what came of them: how many errors, and how many that crashes took.
func agrees(t *testing.T, n api.Net, i int, roles [][]int, ops []api.HallOp, came map[api.Errno]int, lost map[int]int) {
	t.Helper()
	b := &book{n: n, i: i, roles: roles}
	var answers []api.DeskAns
	for _, op := range ops {
		was := len(b.done)
		a := b.told(op)
		answers = append(answers, a)
		came[a.Err]++
		if op.Kind == api.HallCrash {
			lost[was-len(b.done)]++
		}
	}
	want, _, _ := desk.Play(n, i, roles, b.done)
	got, gotAnswers, err := Play(n, i, roles, ops)
	if !sameDesk(got, want) || !slices.Equal(gotAnswers, answers) || err != api.OK {
		t.Fatalf("%v at %d, %v, %v: %v, %v, %d, not %v, %v", n, i, roles, ops, got, gotAnswers, err, want, answers)
	}
}

func enough(t *testing.T, came map[api.Errno]int, lost map[int]int, least int) {
	t.Helper()
	for _, e := range []api.Errno{api.OK, api.ErrRange, api.ErrNone, api.ErrForm, api.ErrKind, api.ErrRole, api.ErrHeld} {
		if came[e] < least {
			t.Errorf("%d came %d times: too few to tell", e, came[e])
		}
	}
	for k := range 4 {
		if lost[k] < least {
			t.Errorf("%d times a crash took %d: too few to tell", lost[k], k)
		}
	}
}

// All rows of five of what may happen, behind what makes it possible.
func TestAllSmallRows(t *testing.T) {
	some := []api.HallOp{
		begin(0, 0), begin(2, 0), end(0, 0), end(2, 0), undo(0, 1), give(0, 0, 2), give(0, 0, 1), skip(1), skip(0),
		do(api.DeskOp{Kind: api.DeskEnd, To: 256}), do(api.DeskOp{Kind: 6}), {Kind: 4},
		sync(), crash(-1), crash(0), crash(6), crash(7), crash(13), crash(14), crash(100),
	}
	came, lost := map[api.Errno]int{}, map[int]int{}
	for k := range len(some) * len(some) * len(some) * len(some) {
		ops := []api.HallOp{begin(0, 0)}
		for rest := k; len(ops) < 5; rest /= len(some) {
			ops = append(ops, some[rest%len(some)])
		}
		agrees(t, row(), 0, staff(), ops, came, lost)
	}
	enough(t, came, lost, 100)
}

// many makes nets of one to five places and up to six transitions, with up to ten users.
func many(count int, each func(n api.Net, roles [][]int, next func(below int) int)) {
	seed := uint32(19)
	next := func(below int) int {
		seed = seed*1664525 + 1013904223
		return int(seed>>8) % below
	}
	weights := func(places, most int) []int {
		l := make([]int, places)
		for range next(most + 1) {
			l[next(places)] = next(3)
		}
		return l
	}
	for range count {
		n := made(1 + next(5))
		for range next(7) {
			n.Trans = append(n.Trans, api.Tran{Label: next(4), Pre: weights(n.Places, 2), Post: weights(n.Places, 4)})
		}
		roles := make([][]int, next(11))
		for user := range roles {
			for range next(12) {
				roles[user] = append(roles[user], next(6)-1)
			}
		}
		each(n, roles, next)
	}
}

// someOps are mostly such as can be done now and then, with a sync or a crash here and there.
func someOps(n api.Net, next func(below int) int, count int) []api.HallOp {
	var ops []api.HallOp
	users, begun := 1+next(3)*next(6), 0
	for range count {
		o := api.DeskOp{Kind: next(7), User: next(users), Tran: next(len(n.Trans)+2) - 1, To: next(users + 3)}
		if next(3) == 0 {
			o.Kind = api.DeskBegin
		}
		if o.Kind == api.DeskBegin {
			begun++
		}
		o.Item = next(begun/3+2) - next(30)/29
		op := api.HallOp{Kind: api.HallDo, Keep: next(40) - 5, Op: o}
		if next(6) == 0 {
			op.Kind = next(5)
		}
		ops = append(ops, op)
	}
	return ops
}

func TestManyNets(t *testing.T) {
	came, lost := map[api.Errno]int{}, map[int]int{}
	many(20000, func(n api.Net, roles [][]int, next func(below int) int) {
		agrees(t, n, next(n.Places), roles, someOps(n, next, 60), came, lost)
	})
	enough(t, came, lost, 500)
}

// Nothing that is sure is lost: behind a sync a crash changes nothing, whatever it keeps.
func TestNothingSureIsLost(t *testing.T) {
	items := 0
	many(2000, func(n api.Net, roles [][]int, next func(below int) int) {
		i, ops := next(n.Places), someOps(n, next, 40)
		want, answers, _ := Play(n, i, roles, ops)
		items += len(want.Items)
		more := append(ops, sync(), crash(next(50)-10), crash(next(50)-10))
		checkPlay(t, fmt.Sprint(n), n, i, roles, more, want, append(answers, make([]api.DeskAns, 3)...))
	})
	if items < 2000 {
		t.Errorf("%d items: too few to tell", items)
	}
}

// Without syncs and crashes a hall is a desk.
func TestAsAtADesk(t *testing.T) {
	done := 0
	many(2000, func(n api.Net, roles [][]int, next func(below int) int) {
		i := next(n.Places)
		var ops []api.HallOp
		var plain []api.DeskOp
		for _, op := range someOps(n, next, 40) {
			op.Op.Item, op.Op.Tran = max(op.Op.Item, 0), max(op.Op.Tran, 0)
			ops, plain = append(ops, do(op.Op)), append(plain, op.Op)
		}
		want, answers, _ := desk.Play(n, i, roles, plain)
		checkPlay(t, fmt.Sprint(n), n, i, roles, ops, want, answers)
		done += len(want.Items)
	})
	if done < 2000 {
		t.Errorf("%d items: too few to tell", done)
	}
}

// Nothing is kept from call to call, and of what was handed in nothing either.
func TestNothingIsKept(t *testing.T) {
	ops := []api.HallOp{begin(0, 0), sync(), give(0, 0, 2), end(2, 0), crash(8), end(2, 0), skip(1), begin(1, 2)}
	want, answers, _ := Play(row(), 0, staff(), ops)
	_, _, _ = Play(row(), 0, [][]int{{1, 2}, {1, 2}}, []api.HallOp{begin(1, 0), sync(), end(1, 0)})
	checkPlay(t, "nothing of the journal is left", row(), 0, staff(), []api.HallOp{crash(100)}, api.Desk{Case: api.Case{Mark: one(4, 0), Busy: one(3)}}, []api.DeskAns{{}})
	checkPlay(t, "once more", row(), 0, staff(), ops, want, answers)

	n, roles, in := row(), staff(), slices.Clone(ops)
	got, came, _ := Play(n, 0, roles, in)
	for _, x := range n.Trans {
		for p := range x.Pre {
			x.Pre[p], x.Post[p] = 9, 9
		}
	}
	roles[0][0], n.Trans[1].Label = 9, 9
	clear(in)
	if !sameDesk(got, want) || !slices.Equal(came, answers) {
		t.Errorf("what was handed in was changed later: %v, %v, not %v, %v", got, came, want, answers)
	}
}

// Whoever changes an answer, or goes on behind the end of its lists, changes neither another list nor what was handed in.
func TestAnswersAreNew(t *testing.T) {
	n, roles := row(), staff()
	rows := [][]api.HallOp{nil, {crash(0)}, {begin(0, 0), end(0, 0)}, {begin(0, 0), crash(0)}, {begin(0, 0), sync(), end(0, 0), skip(1), crash(14)}}
	for _, ops := range rows {
		in := slices.Clone(ops)
		want, answers, _ := Play(row(), 0, staff(), slices.Clone(ops))
		got, came, _ := Play(n, 0, roles, in)
		_ = append(got.Case.Mark, 88)
		_ = append(got.Case.Busy, 88)
		_, _ = append(got.Items, api.Item{User: 88}), append(came, api.DeskAns{Item: 88})
		for p := range got.Case.Mark {
			got.Case.Mark[p] = 99
		}
		if slices.Contains(got.Case.Busy, 99) || slices.Contains(got.Case.Busy, 88) {
			t.Errorf("Mark and Busy share memory: %v", got)
		}
		clear(got.Case.Busy)
		clear(got.Items)
		clear(came)
		if !reflect.DeepEqual(n, row()) || !reflect.DeepEqual(roles, staff()) || !slices.Equal(ops, in) {
			t.Errorf("what was handed in was changed: %v, %v, %v", n, roles, in)
		}
		checkPlay(t, "once more", n, 0, roles, in, want, answers)
	}
}

// Behind the end of a list there may be spare room: it is neither looked at nor changed.
func TestSpareRoom(t *testing.T) {
	spare := func(l ...int) []int { return append(l, 1, 2, -77)[:len(l)] }
	n := row()
	for k, x := range n.Trans {
		n.Trans[k].Pre, n.Trans[k].Post = spare(x.Pre...), spare(x.Post...)
	}
	trans := append(n.Trans, api.Tran{Label: 1, Pre: one(4), Post: one(4)})
	n.Trans = trans[:3]
	all := [][]int{spare(1), spare(), {1, 2}}
	ops := []api.HallOp{begin(0, 0), begin(1, 0), begin(2, 0), begin(0, 3), sync(), end(0, 0), crash(6), crash(7), end(0, 0)}
	want := api.Desk{Case: api.Case{Mark: one(4), Busy: one(3, 0)}, Items: []api.Item{{User: 0, Tran: 0, Open: true}}}
	checkPlay(t, "spare room", n, 0, all[:2], ops[:7], want,
		[]api.DeskAns{{}, {Err: api.ErrRole}, {Err: api.ErrRole}, {Err: api.ErrNone}, {}, {}, {}})
	lists := slices.Clone(all[:2])
	for _, x := range n.Trans {
		lists = append(lists, x.Pre, x.Post)
	}
	for k, l := range lists {
		if !slices.Equal(l[:len(l)+3][len(l):], []int{1, 2, -77}) {
			t.Errorf("list %d: the room behind it was changed: %v", k, l[:len(l)+3])
		}
	}
	if !slices.Equal(all[2], []int{1, 2}) || !slices.Equal(ops[7:], []api.HallOp{crash(7), end(0, 0)}) ||
		!reflect.DeepEqual(trans[3], api.Tran{Label: 1, Pre: one(4), Post: one(4)}) {
		t.Errorf("the room behind was changed: %v, %v, %v", all, ops, trans)
	}
}

// nil and empty lists are the same, and one list may be handed in for several things.
func TestListsAlike(t *testing.T) {
	for _, n := range []api.Net{{Places: 1}, {Places: 1, Trans: []api.Tran{}}} {
		for _, roles := range [][][]int{nil, {}, {nil}, {{}}} {
			for _, ops := range [][]api.HallOp{nil, {}} {
				checkPlay(t, "nothing", n, 0, roles, ops, api.Desk{Case: api.Case{Mark: []int{1}}}, nil)
			}
			checkPlay(t, "nothing can be done", n, 0, roles, []api.HallOp{begin(0, 0), sync(), crash(7), skip(0)}, api.Desk{Case: api.Case{Mark: []int{1}}},
				[]api.DeskAns{{Err: api.ErrNone}, {}, {}, {Err: api.ErrNone}})
		}
	}
	l := []int{1, 0}
	n := made(2, api.Tran{Label: 1, Pre: l, Post: l}, api.Tran{Pre: l, Post: l})
	want := api.Desk{Case: api.Case{Mark: []int{1, 0}, Busy: []int{0, 0}}, Items: []api.Item{{User: 1}}}
	checkPlay(t, "one list", n, 0, [][]int{l, l}, []api.HallOp{begin(0, 0), give(0, 0, 1), crash(14), skip(1), end(1, 0), skip(1)}, want,
		[]api.DeskAns{{}, {}, {}, {Err: api.ErrNone}, {}, {}})
	if !slices.Equal(l, []int{1, 0}) {
		t.Errorf("the list was changed: %v", l)
	}
}

// Much that happens is done in good time.
func TestMuch(t *testing.T) {
	n := made(api.MaxPlaces)
	for k := range api.MaxTrans {
		n.Trans = append(n.Trans, api.Tran{Label: 1 + k, Pre: one(api.MaxPlaces, 0), Post: one(api.MaxPlaces, 0)})
	}
	roles := slices.Repeat([][]int{{24}}, api.MaxUsers)
	var ops []api.HallOp
	for k := range 20000 {
		ops = append(ops, begin(k%8, 23), sync(), give(k%8, k, (k+1)%8), end((k+1)%8, k))
		if k%4000 == 0 {
			ops = append(ops, crash(13), end((k+1)%8, k))
		}
	}
	got, answers, err := Play(n, 0, roles, ops)
	if err != api.OK || len(got.Items) != 20000 || !slices.Equal(got.Case.Mark, one(api.MaxPlaces, 0)) {
		t.Fatalf("%d items, %v, %d", len(got.Items), got.Case, err)
	}
	for k, a := range answers {
		if a.Err != api.OK {
			t.Fatalf("op %d: %v", k, a)
		}
	}
}

func ExamplePlay() {
	n := api.Net{Places: 2, Trans: []api.Tran{{Label: 1, Pre: []int{1, 0}, Post: []int{0, 1}}}}
	d, answers, err := Play(n, 0, [][]int{{1}}, []api.HallOp{
		{Kind: api.HallDo, Op: api.DeskOp{Kind: api.DeskBegin, User: 0, Tran: 0}},
		{Kind: api.HallSync},
		{Kind: api.HallDo, Op: api.DeskOp{Kind: api.DeskEnd, User: 0, Item: 0}},
		{Kind: api.HallCrash, Keep: 6},
	})
	fmt.Println(d, answers, err)
	// Output: {{[0 0] [1]} [{0 0 true}]} [{0 0} {0 0} {0 0} {0 0}] 0
}
