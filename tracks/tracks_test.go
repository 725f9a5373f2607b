package tracks

import (
	"fmt"
	"math"
	"reflect"
	"slices"
	"testing"

	"tokenhall/api"
)

// at are labels.
func at(l ...int) []int { return l }

// times is x that often.
func times(x, many int) []int { return slices.Repeat([]int{x}, many) }

// some are traces.
func some(l ...[]int) [][]int { return l }

// copied is a log that shares no memory with l.
func copied(l [][]int) [][]int {
	out := make([][]int, len(l))
	for k, trace := range l {
		out[k] = slices.Clone(trace)
	}
	return out
}

// logsSame tells whether both have the same traces; nil and empty are the same.
func logsSame(a, b [][]int) bool { return slices.EqualFunc(a, b, slices.Equal[[]int]) }

// printsSame tells whether both show the same; nil and empty are the same.
func printsSame(a, b api.Prints) bool {
	return slices.Equal(a.Labels, b.Labels) && slices.Equal(a.First, b.First) && slices.Equal(a.Last, b.Last) && slices.Equal(a.Behind, b.Behind)
}

// check holds Wrong and Of of log against what is wanted.
func check(t *testing.T, what string, log [][]int, want api.Prints, err api.Errno) {
	t.Helper()
	if e := Wrong(log); e != err {
		t.Errorf("%s: Wrong(%v) is %d, not %d", what, log, e, err)
	}
	got, e := Of(log)
	if e != err || !printsSame(got, want) {
		t.Errorf("%s: Of(%v) is %v, %d, not %v, %d", what, log, got, e, want, err)
	}
	if e != api.OK && !reflect.DeepEqual(got, api.Prints{}) {
		t.Errorf("%s: beside the error %d stands %v", what, e, got)
	}
}

func TestOf(t *testing.T) {
	type pairs = [][2]int
	for _, c := range []struct {
		what                string
		log                 [][]int
		labels, first, last []int
		behind              pairs
	}{
		{"no trace", nil, nil, nil, nil, nil},
		{"a list without traces", some(), nil, nil, nil, nil},
		{"a trace without labels", some(nil), nil, nil, nil, nil},
		{"many of these", some(nil, at(), nil), nil, nil, nil, nil},
		{"one label", some(at(7)), at(7), at(7), at(7), nil},
		{"the least label", some(at(1)), at(1), at(1), at(1), nil},
		{"the greatest label", some(at(26)), at(26), at(26), at(26), nil},
		{"one label beside none", some(nil, at(7), nil), at(7), at(7), at(7), nil},
		{"one label in two traces: nothing is behind it", some(at(7), at(7)), at(7), at(7), at(7), nil},
		{"a label behind itself", some(at(7, 7)), at(7), at(7), at(7), pairs{{7, 7}}},
		{"and again, told once", some(at(7, 7, 7, 7), at(7, 7)), at(7), at(7), at(7), pairs{{7, 7}}},
		{"the document's twenty-second example", some(at(1, 2, 3), at(2)), at(1, 2, 3), at(1, 2), at(2, 3), pairs{{1, 2}, {2, 3}}},
		{"what is farther behind is not right behind", some(at(1, 2, 3, 4)), at(1, 2, 3, 4), at(1), at(4), pairs{{1, 2}, {2, 3}, {3, 4}}},
		{"the end of one trace is not ahead of the next one", some(at(1, 2), at(3, 4)), at(1, 2, 3, 4), at(1, 3), at(2, 4), pairs{{1, 2}, {3, 4}}},
		{"not even if there is nothing between", some(at(1), nil, at(2)), at(1, 2), at(1, 2), at(1, 2), nil},
		{"the last one is not ahead of the first one", some(at(3, 1, 2)), at(1, 2, 3), at(3), at(2), pairs{{1, 2}, {3, 1}}},
		{"falling", some(at(5, 4, 3, 2, 1)), at(1, 2, 3, 4, 5), at(5), at(1), pairs{{2, 1}, {3, 2}, {4, 3}, {5, 4}}},
		{"there and back", some(at(1, 2, 1)), at(1, 2), at(1), at(1), pairs{{1, 2}, {2, 1}}},
		{"side by side", some(at(1, 2, 3, 4), at(1, 3, 2, 4)), at(1, 2, 3, 4), at(1), at(4), pairs{{1, 2}, {1, 3}, {2, 3}, {2, 4}, {3, 2}, {3, 4}}},
		{"pairs by the first one, then by the second one", some(at(2, 26, 2, 10, 2, 1, 26, 1, 10, 1, 2)), at(1, 2, 10, 26), at(2), at(2), pairs{{1, 2}, {1, 10}, {1, 26}, {2, 1}, {2, 10}, {2, 26}, {10, 1}, {10, 2}, {26, 1}, {26, 2}}},
		{"all first and last", some(at(26, 1), at(9), at(1, 26), at(26, 1)), at(1, 9, 26), at(1, 9, 26), at(1, 9, 26), pairs{{1, 26}, {26, 1}}},
		{"in the midst alone", some(at(1, 5, 9), at(1, 6, 9)), at(1, 5, 6, 9), at(1), at(9), pairs{{1, 5}, {1, 6}, {5, 9}, {6, 9}}},
	} {
		check(t, c.what, c.log, api.Prints{Labels: c.labels, First: c.first, Last: c.last, Behind: c.behind}, api.OK)
	}
}

// Each pair of labels is told as it stands, and not the other way round.
func TestEachPair(t *testing.T) {
	for a := 1; a <= api.MaxLabel; a++ {
		for b := 1; b <= api.MaxLabel; b++ {
			want := api.Prints{Labels: at(min(a, b), max(a, b)), First: at(a), Last: at(b), Behind: [][2]int{{a, b}}}
			if a == b {
				want.Labels = at(a)
			}
			check(t, "a pair", some(at(a, b)), want, api.OK)
		}
	}
}

// around has, for each step from 0 to 25, a trace of 52 labels: each label, and the one that is that step ahead of it, round and round.
func around() [][]int {
	var log [][]int
	for step := range api.MaxLabel {
		var trace []int
		for k := range api.MaxLabel {
			trace = append(trace, 1+k, 1+(k+step)%api.MaxLabel)
		}
		log = append(log, trace)
	}
	return log
}

// All labels, and all pairs of them.
func TestAllPairs(t *testing.T) {
	var all []int
	var pairs [][2]int
	for a := 1; a <= api.MaxLabel; a++ {
		all = append(all, a)
		for b := 1; b <= api.MaxLabel; b++ {
			pairs = append(pairs, [2]int{a, b})
		}
	}
	log := around()
	last := slices.Clone(all)
	check(t, "all pairs", log, api.Prints{Labels: all, First: at(1), Last: last, Behind: pairs}, api.OK)
	slices.Reverse(log)
	check(t, "all pairs, the last ones first", log, api.Prints{Labels: all, First: at(1), Last: last, Behind: pairs}, api.OK)
	for _, trace := range log {
		slices.Reverse(trace)
	}
	check(t, "all pairs, from the end", log, api.Prints{Labels: all, First: all, Last: at(1), Behind: pairs}, api.OK)
}

// MaxTraces traces of MaxTrace labels are a log; one more, of either, is none.
func TestLimits(t *testing.T) {
	seven := api.Prints{Labels: at(7), First: at(7), Last: at(7), Behind: [][2]int{{7, 7}}}
	full := times(7, api.MaxTrace)
	check(t, "as long as may be", some(full), seven, api.OK)
	check(t, "as many as may be", slices.Repeat(some(full), api.MaxTraces), seven, api.OK)
	check(t, "as many without labels", make([][]int, api.MaxTraces), api.Prints{}, api.OK)
	for _, many := range []int{api.MaxTraces + 1, api.MaxTraces + 2, 2 * api.MaxTraces, 100000} {
		check(t, "too many", slices.Repeat(some(at(7)), many), api.Prints{}, api.ErrFull)
		check(t, "too many without labels", make([][]int, many), api.Prints{}, api.ErrFull)
	}
	for _, many := range []int{api.MaxTrace + 1, api.MaxTrace + 2, 2 * api.MaxTrace, 100000} {
		for k := range api.MaxTraces {
			log := slices.Repeat(some(at(7)), api.MaxTraces)
			log[k] = times(7, many)
			check(t, "one is too long", log, api.Prints{}, api.ErrRange)
		}
	}
}

// farNumbers are no labels.
func farNumbers() []int {
	return []int{0, -1, -2, 27, 28, 256, 257, 1 << 32, -1 << 32, 1<<32 + 1, 1<<32 + 2, math.MinInt, math.MinInt + 1, math.MaxInt, math.MaxInt - 1}
}

// Labels are from 1 to MaxLabel, wherever they stand.
func TestLabels(t *testing.T) {
	for x := 1; x <= api.MaxLabel; x++ {
		check(t, "a label", some(at(x)), api.Prints{Labels: at(x), First: at(x), Last: at(x)}, api.OK)
	}
	for _, x := range farNumbers() {
		check(t, "no label", some(at(x)), api.Prints{}, api.ErrRange)
		for k := range 4 {
			check(t, "no label among some", some(at(1), slices.Insert(at(1, 2, 3), k, x), at(2)), api.Prints{}, api.ErrRange)
			check(t, "no label in one of some", slices.Insert(some(at(1), nil, at(2, 1)), k, at(x)), api.Prints{}, api.ErrRange)
		}
		log := slices.Repeat(some(times(7, api.MaxTrace)), api.MaxTraces)
		log[api.MaxTraces-1] = append(times(7, api.MaxTrace-1), x)
		check(t, "the last of all", log, api.Prints{}, api.ErrRange)
	}
}

// That there are too many traces is told ahead of what is wrong in them, wherever that is.
func TestWhichError(t *testing.T) {
	for _, wrong := range [][]int{at(0), at(27), times(7, api.MaxTrace+1), times(0, api.MaxTrace+1)} {
		for _, many := range []int{1, 2, api.MaxTraces - 1, api.MaxTraces, api.MaxTraces + 1} {
			err := api.ErrRange
			if many > api.MaxTraces {
				err = api.ErrFull
			}
			for k := range many {
				log := slices.Repeat(some(at(7)), many)
				log[k] = wrong
				check(t, "several errors", log, api.Prints{}, err)
			}
		}
	}
}

func TestOnto(t *testing.T) {
	for _, c := range []struct {
		what   string
		log    [][]int
		labels []int
		want   [][]int
	}{
		{"no trace", nil, at(1), nil},
		{"a list without traces", some(), nil, nil},
		{"no labels are in it", some(nil, nil), at(1), some(nil, nil)},
		{"no labels are wanted", some(at(1), at(2, 3)), nil, some(nil, nil)},
		{"none of those that are wanted", some(at(1), at(2, 3)), at(4), some(nil, nil)},
		{"all of those that are wanted", some(at(1), at(2, 3)), at(1, 2, 3), some(at(1), at(2, 3))},
		{"some of them", some(at(1, 2, 3, 4), at(1, 3, 2, 4)), at(2, 3), some(at(2, 3), at(3, 2))},
		{"in the order of the trace, not in that of labels", some(at(3, 1, 2)), at(1, 2, 3), some(at(3, 1, 2))},
		{"and the other way round", some(at(1, 2, 3)), at(3, 2, 1), some(at(1, 2, 3))},
		{"as often as they are there", some(at(1, 2, 1, 1, 2)), at(1), some(at(1, 1, 1))},
		{"not as often as they are wanted", some(at(1, 2)), at(1, 1, 1), some(at(1))},
		{"those without labels stay", some(at(1), at(2), nil, at(1)), at(1), some(at(1), nil, nil, at(1))},
		{"the same trace as often as it is there", some(at(1, 2), at(1, 2), at(2, 1)), at(1), some(at(1), at(1), at(1))},
		{"numbers that are no labels", some(at(0, -1, 27, math.MaxInt, math.MinInt, 5)), at(math.MinInt, 0, 27), some(at(0, 27, math.MinInt))},
		{"numbers alike in their lower bits", some(at(1, 1<<32+1, 257, 1)), at(1), some(at(1, 1))},
		{"the greatest ones", some(at(math.MaxInt, math.MinInt)), at(math.MaxInt), some(at(math.MaxInt))},
	} {
		if got := Onto(c.log, c.labels); !logsSame(got, c.want) {
			t.Errorf("%s: Onto(%v, %v) is %v, not %v", c.what, c.log, c.labels, got, c.want)
		}
	}
}

// Onto is of any log: of more traces, of longer ones, and of other numbers than Wrong lets pass.
func TestOntoLarge(t *testing.T) {
	if got := Onto(make([][]int, 1000), at(1)); !logsSame(got, make([][]int, 1000)) {
		t.Errorf("of 1000 traces without labels %d are left", len(got))
	}
	const long = 300000
	trace := make([]int, long)
	for k := range trace {
		trace[k] = k - 1000
	}
	got := Onto(some(at(1), trace, trace[:1000]), trace[1000:])
	if !logsSame(got, some(at(1), trace[1000:], nil)) {
		t.Error("a long trace onto many labels is not what it should be")
	}
	log := slices.Repeat(some(at(1, 2)), long)
	if got := Onto(log, at(2)); !logsSame(got, slices.Repeat(some(at(2)), long)) {
		t.Error("many traces onto a label are not what they should be")
	}
}

// toldWrong is what the promise says that is wrong.
func toldWrong(log [][]int) api.Errno {
	if len(log) > 60 {
		return api.ErrFull
	}
	for _, trace := range log {
		for k, x := range trace {
			if k == 60 || x < 1 || x > 26 {
				return api.ErrRange
			}
		}
	}
	return api.OK
}

// told is what the promise says that log shows, asked label by label, and pair by pair.
func told(log [][]int) (api.Prints, api.Errno) {
	if err := toldWrong(log); err != api.OK {
		return api.Prints{}, err
	}
	in := func(is func(trace []int) bool) bool { return slices.ContainsFunc(log, is) }
	var p api.Prints
	for a := 1; a <= 26; a++ {
		if in(func(trace []int) bool { return slices.Contains(trace, a) }) {
			p.Labels = append(p.Labels, a)
		}
		if in(func(trace []int) bool { return slices.Index(trace, a) == 0 }) {
			p.First = append(p.First, a)
		}
		if in(func(trace []int) bool { return len(trace) > 0 && trace[len(trace)-1] == a }) {
			p.Last = append(p.Last, a)
		}
		for b := 1; b <= 26; b++ {
			if in(func(trace []int) bool { return stands(trace, a, b) }) {
				p.Behind = append(p.Behind, [2]int{a, b})
			}
		}
	}
	return p, api.OK
}

// stands tells whether b stands right behind a, anywhere in trace.
func stands(trace []int, a, b int) bool {
	for len(trace) > 1 {
		if trace[0] == a && trace[1] == b {
			return true
		}
		trace = trace[1:]
	}
	return false
}

// toldOnto leaves out what is not in labels.
func toldOnto(log [][]int, labels []int) [][]int {
	out := copied(log)
	for k := range out {
		out[k] = slices.DeleteFunc(out[k], func(x int) bool { return !slices.Contains(labels, x) })
	}
	return out
}

// many makes logs, most of them right.
func many(count int, each func(log [][]int, next func(below int) int)) {
	seed := uint32(22)
	next := func(below int) int {
		seed = seed*1664525 + 1013904223
		return int(seed>>8) % below
	}
	for range count {
		traces, length := next(6), 1+next(8)
		if next(20) == 0 {
			traces = 55 + next(12)
		}
		if next(20) == 0 {
			length = 55 + next(12)
		}
		least, labels := 1+next(20), 1+next(7)
		var log [][]int
		for range traces {
			var trace []int
			for range next(length) {
				trace = append(trace, min(least+next(labels), 26))
			}
			log = append(log, trace)
		}
		if traces > 0 && next(10) == 0 {
			k := next(traces)
			wrong := farNumbers()
			log[k] = slices.Insert(log[k], next(len(log[k])+1), wrong[next(len(wrong))])
		}
		each(log, next)
	}
}

func TestManyLogs(t *testing.T) {
	came := map[api.Errno]int{}
	many(6000, func(log [][]int, next func(below int) int) {
		want, err := told(log)
		check(t, "as it is told", log, want, err)
		came[err]++
		labels := at()
		for range next(6) {
			labels = append(labels, next(29)-1)
		}
		if got := Onto(log, labels); !logsSame(got, toldOnto(log, labels)) {
			t.Errorf("Onto(%v, %v) is %v", log, labels, got)
		}
	})
	for _, err := range []api.Errno{api.OK, api.ErrFull, api.ErrRange} {
		if came[err] < 100 {
			t.Errorf("%d came %d times: too few to tell", err, came[err])
		}
	}
}

// What comes of Of and of Onto together.
func TestTogether(t *testing.T) {
	right := 0
	many(6000, func(log [][]int, next func(below int) int) {
		p, err := Of(log)
		if err != api.OK {
			return
		}
		right++
		if !logsSame(Onto(log, p.Labels), log) {
			t.Errorf("onto all of its labels, %v is %v", log, Onto(log, p.Labels))
		}
		var half []int
		for _, x := range p.Labels {
			if next(2) == 0 {
				half = append(half, x)
			}
		}
		less := Onto(log, half)
		if !logsSame(Onto(less, half), less) {
			t.Errorf("%v onto %v, and once more, is not the same", log, half)
		}
		if q, err := Of(less); err != api.OK || !slices.Equal(q.Labels, half) {
			t.Errorf("%v onto %v has the labels %v, %d", log, half, q.Labels, err)
		}
		other := copied(log)
		slices.Reverse(other)
		check(t, "the traces in another order, and twice, show the same", append(other[:len(other):len(other)], log[:min(len(log), 60-len(log))]...), p, api.OK)
	})
	if right < 1000 {
		t.Errorf("%d logs were right: too few to tell", right)
	}
}

// Neither calls ahead of it nor the order of a map can be told from an answer.
func TestTheSameAgain(t *testing.T) {
	for _, log := range [][][]int{around(), some(at(3, 2, 1), at(1, 3)), some(nil, at(26, 1, 26)), some(at(0))} {
		want, err := told(log)
		for range 20 {
			check(t, "again", some(at(5, 4, 3)), api.Prints{Labels: at(3, 4, 5), First: at(5), Last: at(3), Behind: [][2]int{{4, 3}, {5, 4}}}, api.OK)
			check(t, "again", log, want, err)
		}
	}
}

// What was handed in is only read, and neither it nor what was answered is kept.
func TestOnlyRead(t *testing.T) {
	for _, log := range [][][]int{nil, some(nil), some(at(3, 1, 2), at(2)), some(at(2, 0)), some(times(2, api.MaxTrace+1)), slices.Repeat(some(at(2, 1)), api.MaxTraces+1)} {
		in, labels := copied(log), at(2, 1, 2)
		p, err := told(log)
		onto := toldOnto(log, labels)
		check(t, "once", in, p, err)
		got, _ := Of(in)
		less := Onto(in, labels)
		if !logsSame(in, log) || !slices.Equal(labels, at(2, 1, 2)) {
			t.Errorf("what was handed in was changed: %v, %v", in, labels)
		}
		for _, trace := range in {
			clear(trace)
		}
		clear(in)
		clear(labels)
		if !printsSame(got, p) || !logsSame(less, onto) {
			t.Errorf("what was answered was changed: %v, %v", got, less)
		}
		for _, l := range append(less, got.Labels, got.First, got.Last) {
			clear(l)
		}
		clear(got.Behind)
		check(t, "once more", log, p, err)
		if again := Onto(log, at(2, 1, 2)); !logsSame(again, onto) {
			t.Errorf("once more: Onto(%v) is %v", log, again)
		}
	}
}

// No two lists of an answer share memory, nor the room behind them, though what was handed in does.
func TestOwnMemory(t *testing.T) {
	trace := at(1, 2, 1)
	log := some(trace, trace, trace[:2], trace[1:])
	l := Onto(log, at(1, 2))
	for k := range l {
		l[k] = append(l[k], 10+k, 20+k)
		for j := range l[k] {
			l[k][j] += 100 * (k + 1)
		}
	}
	if !logsSame(l, some(at(101, 102, 101, 110, 120), at(201, 202, 201, 211, 221), at(301, 302, 312, 322), at(402, 401, 413, 423))) {
		t.Errorf("lists share memory: %v", l)
	}
	p, _ := Of(some(at(1, 2), at(2, 1)))
	for k, l := range []*[]int{&p.Labels, &p.First, &p.Last} {
		*l = append(*l, k)
		(*l)[0] += 10 * (k + 1)
	}
	if !printsSame(p, api.Prints{Labels: at(11, 2, 0), First: at(21, 2, 1), Last: at(31, 2, 2), Behind: [][2]int{{1, 2}, {2, 1}}}) {
		t.Errorf("lists share memory: %v", p)
	}
	if !slices.Equal(trace, at(1, 2, 1)) {
		t.Errorf("an answer shares memory with what was handed in: %v", trace)
	}
}

// Behind the end of a list there may be spare room: it is neither looked at nor changed.
func TestSpareRoom(t *testing.T) {
	spare := func(l ...int) []int { return append(l, 5, 0, -77)[:len(l)] }
	traces := append(some(spare(1, 2), spare(2), spare()), at(9), at(0))
	log := traces[:3]
	labels := spare(1)
	check(t, "spare room", log, api.Prints{Labels: at(1, 2), First: at(1, 2), Last: at(2), Behind: [][2]int{{1, 2}}}, api.OK)
	if got := Onto(some(spare(5, 1), spare(5)), labels); !logsSame(got, some(at(1), nil)) {
		t.Errorf("a label in spare room: %v", got)
	}
	_ = Onto(log, labels)
	for k, l := range append(traces[:3:3], labels) {
		if !slices.Equal(l[:len(l)+3][len(l):], at(5, 0, -77)) {
			t.Errorf("list %d: the room behind it was changed: %v", k, l[:len(l)+3])
		}
	}
	if !logsSame(traces[3:], some(at(9), at(0))) {
		t.Errorf("the room behind the log was changed: %v", traces)
	}
	full := slices.Repeat(some(times(7, api.MaxTrace+1)[:api.MaxTrace]), api.MaxTraces+1)
	check(t, "a full log with spare room", full[:api.MaxTraces], api.Prints{Labels: at(7), First: at(7), Last: at(7), Behind: [][2]int{{7, 7}}}, api.OK)
}

func Example() {
	log := [][]int{{1, 2, 3}, {2}}
	p, err := Of(log)
	fmt.Println(p.Labels, p.First, p.Last, p.Behind, err)
	fmt.Println(Onto(log, []int{1, 3}))
	fmt.Println(Wrong([][]int{{0}}) == api.ErrRange, Wrong(make([][]int, 61)) == api.ErrFull)
	// Output:
	// [1 2 3] [1 2] [2 3] [[1 2] [2 3]] 0
	// [[1 3] []]
	// true true
}
