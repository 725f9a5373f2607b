package bench

import (
	"fmt"
	"math"
	"reflect"
	"slices"
	"strings"
	"testing"

	"tokenhall/align"
	"tokenhall/api"
	"tokenhall/blocks"
	"tokenhall/grow"
	"tokenhall/mine"
	"tokenhall/sound"
	"tokenhall/tracks"
)

// alphabet are the letters of all labels.
const alphabet = "abcdefghijklmnopqrstuvwxyz"

func step(label int) api.Block { return api.Block{Kind: api.Step, Label: label} }

func silence() api.Block { return api.Block{Kind: api.Silent} }

func of(kind int, kids ...api.Block) api.Block { return api.Block{Kind: kind, Kids: kids} }

// steps are the Steps of labels from 1 on, so many.
func steps(many int) []api.Block {
	var l []api.Block
	for label := range many {
		l = append(l, step(label+1))
	}
	return l
}

// deep has so many blocks, each the only one within the one ahead of it.
func deep(many int) api.Block {
	b := step(1)
	for range many - 1 {
		b = of(api.Seq, b)
	}
	return b
}

// spelt is the letters of l, apart by what stands between.
func spelt(l, between string) string { return strings.Join(strings.Split(l, ""), between) }

// lines is the text of a log that has these words.
func lines(words ...string) string {
	s := ""
	for _, w := range words {
		s += w + "\n"
	}
	return s
}

// chance makes numbers that look as if they hung on nothing.
func chance(seed uint32) func(below int) int {
	return func(below int) int {
		seed = seed*1664525 + 1013904223
		return int(seed>>8) % below
	}
}

// prints checks that want is the text of b.
func prints(t *testing.T, what string, b api.Block, want string) {
	t.Helper()
	if s, err := Print(b); s != want || err != api.OK {
		t.Errorf("%s: %q, %d, not %q", what, s, err, want)
	}
}

// printFails checks that want comes of b, and no text beside.
func printFails(t *testing.T, what string, b api.Block, want api.Errno) {
	t.Helper()
	if s, err := Print(b); s != "" || err != want {
		t.Errorf("%s: %q, %d, not %d", what, s, err, want)
	}
}

// X1: each kind of block, and block within block.
func TestPrint(t *testing.T) {
	a, b, c := step(1), step(2), step(3)
	for _, x := range []struct {
		b    api.Block
		want string
	}{
		{silence(), "-"},
		{a, "a"},
		{of(api.Seq, a, b), ">(a,b)"},
		{of(api.Choice, a, b), "?(a,b)"},
		{of(api.Both, a, b), "&(a,b)"},
		{of(api.Loop, a, b), "*(a,b)"},
		{of(api.Seq, a), ">(a)"},
		{of(api.Choice, silence()), "?(-)"},
		{of(api.Both, c), "&(c)"},
		{of(api.Seq, c, b, a), ">(c,b,a)"},
		{of(api.Both, a, a, a), "&(a,a,a)"},
		{of(api.Loop, silence(), silence()), "*(-,-)"},
		{of(api.Loop, b, silence()), "*(b,-)"},
		{of(api.Choice, silence(), of(api.Choice, a, silence())), "?(-,?(a,-))"},
		{of(api.Seq, a, of(api.Both, b, c), step(4)), ">(a,&(b,c),d)"},
		{of(api.Seq, of(api.Seq, of(api.Seq, a), b), c), ">(>(>(a),b),c)"},
		{of(api.Both, of(api.Loop, a, of(api.Choice, b, c)), of(api.Seq, c, of(api.Loop, silence(), b))), "&(*(a,?(b,c)),>(c,*(-,b)))"},
	} {
		prints(t, "a block", x.b, x.want)
	}
}

func TestPrintLabels(t *testing.T) {
	for label := 1; label <= api.MaxLabel; label++ {
		letter := string(rune('a' + label - 1))
		prints(t, "alone", step(label), letter)
		prints(t, "within", of(api.Loop, step(label), of(api.Seq, step(label))), "*("+letter+",>("+letter+"))")
	}
	prints(t, "all of them", of(api.Choice, steps(api.MaxLabel)...), "?("+spelt(alphabet, ",")+")")
}

// Labels of what has none mean nothing, and a list without entries is none.
func TestPrintMeansNothing(t *testing.T) {
	for _, label := range []int{0, 1, 26, 27, -1, math.MinInt, math.MaxInt} {
		prints(t, "Silent", api.Block{Kind: api.Silent, Label: label}, "-")
		for kind, sign := range map[int]string{api.Seq: ">", api.Choice: "?", api.Both: "&", api.Loop: "*"} {
			b := of(kind, step(2), silence())
			b.Label = label
			prints(t, "with a label", b, sign+"(b,-)")
		}
	}
	prints(t, "Silent", api.Block{Kind: api.Silent, Kids: []api.Block{}}, "-")
	prints(t, "a Step", api.Block{Kind: api.Step, Label: 7, Kids: []api.Block{}}, "g")
}

// Of a block that is wrong blocks.Wrong's error comes.
func TestPrintWrong(t *testing.T) {
	a := step(1)
	for what, b := range map[string]api.Block{
		"no kind":                     {},
		"kind -1":                     {Kind: -1},
		"kind 7":                      of(7, a),
		"the least kind":              of(math.MinInt, a),
		"the greatest kind":           of(math.MaxInt, a),
		"no kind within":              of(api.Seq, a, api.Block{}),
		"no kind ahead of a label":    of(api.Seq, api.Block{}, step(0)),
		"no kind, with what is wrong": of(0, step(0)),
	} {
		printFails(t, what, b, api.ErrKind)
	}
	for _, label := range []int{0, -1, 27, 28, 256, 257, 1<<32 + 1, math.MinInt, math.MaxInt} {
		printFails(t, "no label", step(label), api.ErrRange)
		printFails(t, "no label within", of(api.Both, a, of(api.Loop, silence(), step(label))), api.ErrRange)
		printFails(t, "no label, and kids", api.Block{Kind: api.Step, Label: label, Kids: steps(1)}, api.ErrRange)
		printFails(t, "no label ahead of no kind", of(api.Seq, step(label), api.Block{}), api.ErrRange)
	}
	for what, b := range map[string]api.Block{
		"Silent with kids":          of(api.Silent, a),
		"a Step with kids":          {Kind: api.Step, Label: 1, Kids: steps(1)},
		"a Seq of nothing":          of(api.Seq),
		"a Choice of nothing":       {Kind: api.Choice, Kids: []api.Block{}},
		"a Both of nothing":         of(api.Both),
		"a Loop of nothing":         of(api.Loop),
		"a Loop of one":             of(api.Loop, a),
		"a Loop of three":           of(api.Loop, a, a, a),
		"a Loop of one, of no kind": of(api.Loop, api.Block{}),
		"within":                    of(api.Choice, a, of(api.Seq, of(api.Both))),
		"ahead of no kind":          of(api.Choice, of(api.Seq), api.Block{}),
	} {
		printFails(t, what, b, api.ErrForm)
	}
}

// MaxBlocks blocks have a text; one more is too many, and so are blocks that are within themselves.
func TestPrintMaxBlocks(t *testing.T) {
	prints(t, "as deep as may be", deep(api.MaxBlocks), strings.Repeat(">(", 39)+"a"+strings.Repeat(")", 39))
	printFails(t, "one deeper", deep(api.MaxBlocks+1), api.ErrFull)
	printFails(t, "by far too deep", deep(60000), api.ErrFull)
	flat := slices.Repeat(steps(1), api.MaxBlocks)
	prints(t, "as many as may be", of(api.Both, flat[1:]...), "&("+strings.Repeat("a,", 38)+"a)")
	printFails(t, "one more", of(api.Both, flat...), api.ErrFull)
	printFails(t, "by far too many", of(api.Both, slices.Repeat(flat, 2000)...), api.ErrFull)
	printFails(t, "one more, that is no kind", of(api.Both, append(slices.Clone(flat[1:]), api.Block{})...), api.ErrFull)
	printFails(t, "the last one is no kind", of(api.Both, append(slices.Clone(flat[2:]), api.Block{})...), api.ErrKind)
	round := of(api.Loop, step(1), step(2))
	round.Kids[1] = round
	printFails(t, "in itself", round, api.ErrFull)
}

// read reads a block's text, and answers what is behind it.
func read(s string) (api.Block, string) {
	kind := strings.IndexByte("-_>?&*", s[0]) + 1
	switch kind {
	case 0:
		return step(strings.IndexByte(alphabet, s[0]) + 1), s[1:]
	case api.Silent:
		return silence(), s[1:]
	}
	b, rest, kid := of(kind), s[1:], api.Block{}
	for more := true; more; more = rest[0] == ',' {
		kid, rest = read(rest[1:])
		b.Kids = append(b.Kids, kid)
	}
	return b, rest[1:]
}

// anyBlock makes a block, up to depth kids within kids.
func anyBlock(next func(below int) int, depth, labels int) api.Block {
	if depth == 0 || next(4) == 0 {
		if next(8) == 0 {
			return silence()
		}
		return step(1 + next(labels))
	}
	b := api.Block{Kind: api.Seq + next(4)}
	many := 2
	if b.Kind != api.Loop {
		many = 1 + next(4)
	}
	for range many {
		b.Kids = append(b.Kids, anyBlock(next, depth-1, labels))
	}
	return b
}

// spoil makes one block of b wrong, or none.
func spoil(next func(below int) int, b *api.Block) {
	for len(b.Kids) > 0 && next(3) > 0 {
		b = &b.Kids[next(len(b.Kids))]
	}
	switch next(4) {
	case 0:
		b.Kind = next(9) - 1
	case 1:
		b.Label = next(40) - 5
	case 2:
		b.Kids = append(b.Kids, step(next(28)))
	case 3:
		b.Kids = nil
	}
}

// From its text each block can be told again.
func TestPrintMany(t *testing.T) {
	next := chance(24)
	came := map[api.Errno]int{}
	for range 20000 {
		b := anyBlock(next, next(5), api.MaxLabel)
		if next(3) == 0 {
			spoil(next, &b)
		}
		want := blocks.Wrong(b)
		came[want]++
		if want != api.OK {
			printFails(t, "wrong", b, want)
			continue
		}
		s, err := Print(b)
		if err != api.OK || s == "" {
			t.Fatalf("%v: %q, %d", b, s, err)
		}
		again, rest := read(s)
		if !same(again, b) || rest != "" {
			t.Errorf("%q is told of %v, and tells %v", s, b, again)
		}
	}
	for _, err := range []api.Errno{api.OK, api.ErrForm, api.ErrRange, api.ErrFull, api.ErrKind} {
		if came[err] < 100 {
			t.Errorf("%d came %d times: too few to tell", err, came[err])
		}
	}
}

// same tells whether both are the same, but for labels of what has none.
func same(a, b api.Block) bool {
	return a.Kind == b.Kind && (a.Kind != api.Step || a.Label == b.Label) && slices.EqualFunc(a.Kids, b.Kids, same)
}

// What was handed in is only read, and the spare room behind it neither looked at nor changed.
func TestPrintOnlyRead(t *testing.T) {
	made := func() api.Block {
		inner := append(steps(2), api.Block{Kind: 99, Label: -1}, api.Block{})[:2]
		return of(api.Both, append([]api.Block{{Kind: api.Loop, Label: 5, Kids: inner}, silence()}, step(-1))[:2]...)
	}
	b, want := made(), made()
	prints(t, "with spare room", b, "&(*(a,b),-)")
	for at, wants := &b, &want; len(at.Kids) > 0; at, wants = &at.Kids[0], &wants.Kids[0] {
		if !reflect.DeepEqual(at.Kids[:cap(at.Kids)], wants.Kids[:cap(at.Kids)]) {
			t.Errorf("what was handed in was changed: %v", at.Kids[:cap(at.Kids)])
		}
	}
	s, _ := Print(b)
	clear(b.Kids)
	if s != "&(*(a,b),-)" {
		t.Errorf("what was answered was changed: %q", s)
	}
}

// logsSame tells whether both have the same traces; nil and empty are the same.
func logsSame(a, b [][]int) bool { return slices.EqualFunc(a, b, slices.Equal[[]int]) }

// logs checks that want is the log whose text s is.
func logs(t *testing.T, what, s string, want [][]int) {
	t.Helper()
	if l, line, err := Log(s); !logsSame(l, want) || line != 0 || err != api.OK {
		t.Errorf("%s: of %q come %v, %d, %d, not %v", what, s, l, line, err, want)
	}
}

// logFails checks that s is no log's text, first in that line.
func logFails(t *testing.T, what, s string, want int) {
	t.Helper()
	if l, line, err := Log(s); len(l) != 0 || line != want || err != api.ErrForm {
		t.Errorf("%s: of %q come %v, %d, %d, not line %d", what, s, l, line, err, want)
	}
	if r := Tell(s); !reportsSame(r, api.Report{Err: api.ErrForm, Line: want}) {
		t.Errorf("%s: of %q comes %v, not line %d", what, s, r, want)
	}
}

// X1: logs.
func TestLog(t *testing.T) {
	for _, x := range []struct {
		what, s string
		want    [][]int
	}{
		{"no line, no trace", "", nil},
		{"a trace without labels", "\n", [][]int{nil}},
		{"three of these", "\n\n\n", [][]int{nil, nil, nil}},
		{"one label", "a\n", [][]int{{1}}},
		{"the greatest label", "z\n", [][]int{{26}}},
		{"the document's twenty-third example", "abcd\nacbd\n", [][]int{{1, 2, 3, 4}, {1, 3, 2, 4}}},
		{"the same again", "ba\nba\n", [][]int{{2, 1}, {2, 1}}},
		{"more than once", "ccc\nc\n", [][]int{{3, 3, 3}, {3}}},
		{"without labels first", "\na\n", [][]int{nil, {1}}},
		{"without labels last", "a\n\n", [][]int{{1}, nil}},
		{"in the midst", "y\n\nx\n", [][]int{{25}, nil, {24}}},
	} {
		logs(t, x.what, x.s, x.want)
	}
}

// Each byte: a label, a line's end, or none of both.
func TestLogBytes(t *testing.T) {
	for c := range 256 {
		s := string([]byte{byte(c)})
		if label := strings.Index(alphabet, s) + 1; label > 0 {
			logs(t, "alone", s+"\n", [][]int{{label}})
			logs(t, "among others", "a\nz"+s+"z\n", [][]int{{1}, {26, label, 26}})
			continue
		}
		if s == "\n" {
			logs(t, "a line's end", "a\nz"+s+"z\n", [][]int{{1}, {26}, {26}})
			continue
		}
		logFails(t, "alone", s+"\n", 0)
		logFails(t, "without an end", s, 0)
		logFails(t, "first", "a\n"+s+"z\n", 1)
		logFails(t, "last", "a\nb\nz"+s+"\nb\n", 2)
		logFails(t, "in the midst", "\n\na\nz"+s+"z\n", 3)
		logFails(t, "behind the last end", "a\n"+s, 1)
	}
	for _, s := range []string{"é", "ａ", "а", "\u2028", "\ufeffa", "a\x00", "\r", "ab\r", " ab", "ab ", "a,b", "-", "1"} {
		logFails(t, "no letter", "a\n"+s+"\nb\n", 1)
	}
}

// The first line that is wrong is told, whatever is wrong, and what is behind it.
func TestLogLines(t *testing.T) {
	for _, x := range []struct {
		what, s string
		want    int
	}{
		{"no end", "a", 0},
		{"no end, many letters", alphabet, 0},
		{"no end behind others", "a\nb\nc", 2},
		{"no end behind one without labels", "\nc", 1},
		{"another byte, and no end", "a\nb!", 1},
		{"another byte, then no end", "a\nB\nc", 1},
		{"two with other bytes", "a\nb\n \n \n", 2},
		{"the first one", "A\nb\n", 0},
		{"the first one, then others", "A\n \nc", 0},
		{"behind many", strings.Repeat("ab\n", 1000) + "a.b\nab\n", 1000},
		{"no end behind many", strings.Repeat("\n", 100000) + "a", 100000},
		{"at the end of many letters", strings.Repeat("a", 100000) + "A\n", 0},
	} {
		logFails(t, x.what, x.s, x.want)
	}
}

// What is too much for others is a log all the same.
func TestLogLarge(t *testing.T) {
	logs(t, "many traces", strings.Repeat("ab\n", 100000), slices.Repeat([][]int{{1, 2}}, 100000))
	logs(t, "many without labels", strings.Repeat("\n", 100000), make([][]int, 100000))
	logs(t, "many labels", strings.Repeat("yz", 100000)+"\n", [][]int{slices.Repeat([]int{25, 26}, 100000)})
}

// madeLog makes words: of a block, with some of them spoilt at times; or letters as they come.
func madeLog(next func(below int) int) []string {
	var words []string
	labels := 1 + next(8)
	if next(3) == 0 {
		for range next(8) {
			w := ""
			for range next(12) {
				w += alphabet[next(labels):][:1]
			}
			words = append(words, w)
		}
		return words
	}
	l, _ := blocks.Words(anyBlock(next, 1+next(3), labels), 3+next(4))
	for _, w := range l {
		s := ""
		for _, label := range w {
			s += alphabet[label-1 : label]
		}
		if next(4) > 0 && len(words) < api.MaxTraces {
			words = append(words, s)
		}
	}
	if len(words) > 0 && next(4) == 0 {
		k := next(len(words))
		words[k] = words[k][:next(len(words[k])+1)] + alphabet[next(labels):][:1]
	}
	return words
}

// logOf has a trace of each of words.
func logOf(words []string) [][]int {
	var log [][]int
	for _, w := range words {
		var trace []int
		for _, c := range w {
			trace = append(trace, int(c-'a')+1)
		}
		log = append(log, trace)
	}
	return log
}

func TestLogMany(t *testing.T) {
	next := chance(3)
	for range 5000 {
		words := madeLog(next)
		s := lines(words...)
		logs(t, "as it was written", s, logOf(words))
		if s == "" {
			continue
		}
		logFails(t, "without its last end", s+"q", len(words))
		at := next(len(s))
		logFails(t, "with another byte", s[:at]+"_"+s[at:], strings.Count(s[:at], "\n"))
	}
}

// No two traces of an answer share memory, nor the room behind them.
func TestLogOwnMemory(t *testing.T) {
	s := lines("ab", "", "c", "ba")
	l, _, _ := Log(s)
	for k := range l {
		l[k] = append(l[k], 70+k, 80+k, 90+k)
	}
	if want := [][]int{{1, 2, 70, 80, 90}, {71, 81, 91}, {3, 72, 82, 92}, {2, 1, 73, 83, 93}}; !logsSame(l, want) {
		t.Errorf("traces share memory: %v", l)
	}
	logs(t, "again", s, [][]int{{1, 2}, nil, {3}, {2, 1}})
}

// reportsSame holds nil and empty lists to be the same.
func reportsSame(a, b api.Report) bool {
	same := slices.Equal(a.Costs, b.Costs)
	a.Costs, b.Costs = nil, nil
	return same && reflect.DeepEqual(a, b)
}

// tells checks that want is what is told of s.
func tells(t *testing.T, what, s string, want api.Report) {
	t.Helper()
	if r := Tell(s); !reportsSame(r, want) {
		t.Errorf("%s: of %q comes %v, not %v", what, s, r, want)
	}
}

// fits checks that in words block is found, sound, and that no trace costs anything.
func fits(t *testing.T, what string, words []string, block string) {
	t.Helper()
	tells(t, what, lines(words...), api.Report{Block: block, Verdict: api.Sound, Costs: make([]int, len(words))})
}

// X2: what is found, and what comes of it.
func TestTell(t *testing.T) {
	for _, x := range []struct{ what, words, block string }{
		{"no trace", "", "-"},
		{"a trace without labels", "-", "-"},
		{"two of these", "- -", "-"},
		{"one label", "a", "a"},
		{"the greatest one", "z z", "z"},
		{"more than once", "a aaa", "*(a,-)"},
		{"the document's twenty-fourth example", "abcd acbd", ">(a,&(b,c),d)"},
		{"or nothing", "ab cd dc -", "?(-,?(>(a,b),&(c,d)))"},
		{"rounds side by side", "abab ba", "&(*(a,-),*(b,-))"},
		{"anything", "abcadcb", "*(-,?(a,b,c,d))"},
		{"the same many times", "ab ab ab ab ab", ">(a,b)"},
	} {
		words := strings.Fields(x.words)
		for k, w := range words {
			words[k] = strings.Trim(w, "-")
		}
		fits(t, x.what, words, x.block)
	}
}

// Of a text that is none Log's error comes, and its line, whatever else is wrong.
func TestTellForm(t *testing.T) {
	logFails(t, "and too many traces", strings.Repeat("a\n", 100)+"A\n", 100)
	logFails(t, "and too long a trace", strings.Repeat("a", 100)+"\nb", 1)
	logFails(t, "and too many blocks", lines(tooManyBlocks()...)+"a", len(tooManyBlocks()))
	logFails(t, "and too many places", alphabet+"\n?\n", 1)
}

// tooManyBlocks are words in which one block too many is found.
func tooManyBlocks() []string {
	words := []string{""}
	for _, p := range strings.Fields("ab cd ef gh ij kl mn op qr st uv wx yz") {
		words = append(words, p, p[1:]+p[:1])
	}
	return words
}

// The error of mine.Mine comes alone: nothing was found.
func TestTellNotMined(t *testing.T) {
	full, long := api.Report{Err: api.ErrFull}, api.Report{Err: api.ErrRange}
	many := slices.Repeat([]string{"a"}, api.MaxTraces)
	fits(t, "as many as may be", many, "a")
	tells(t, "one more", lines(many...)+"a\n", full)
	tells(t, "one more without labels", lines(many...)+"\n", full)
	tells(t, "by far too many", strings.Repeat("\n", 100000), full)
	whole := strings.Repeat("a", api.MaxTrace)
	fits(t, "as long as may be", []string{whole}, "*(a,-)")
	tells(t, "one more", whole+"a\n", long)
	tells(t, "behind others", lines("b", "", whole+"a", "c"), long)
	tells(t, "by far too long", strings.Repeat("ab", 100000)+"\n", long)
	tells(t, "too long, and too many", strings.Repeat(whole+"a\n", api.MaxTraces+1), full)
	tells(t, "too many blocks", lines(tooManyBlocks()...), full)
}

// The error of grow.Grow comes beside what was found.
func TestTellNotGrown(t *testing.T) {
	row := func(many int) string { return ">(" + spelt(alphabet[:many], ",") + ")" }
	choice := func(many int) string { return "?(" + spelt(alphabet[:many], ",") + ")" }
	fits(t, "as many places as may be", []string{alphabet[:15]}, row(15))
	for many := 16; many <= api.MaxLabel; many++ {
		tells(t, "too many places", alphabet[:many]+"\n", api.Report{Err: api.ErrFull, Block: row(many)})
	}
	fits(t, "as many transitions as may be", strings.Split(alphabet[:24], ""), choice(24))
	for many := 25; many <= api.MaxLabel; many++ {
		tells(t, "too many transitions", spelt(alphabet[:many], "\n")+"\n", api.Report{Err: api.ErrFull, Block: choice(many)})
	}
	fits(t, "anything", []string{alphabet[:21] + "a"}, "*(-,"+choice(21)+")")
	tells(t, "too much of anything", alphabet[:22]+"a\n", api.Report{Err: api.ErrFull, Block: "*(-," + choice(22) + ")"})
	pairs := tooManyBlocks()[1:]
	tells(t, "as many blocks as may be", lines(pairs...), api.Report{Err: api.ErrFull, Block: "?(&(a,b),&(c,d),&(e,f),&(g,h),&(i,j),&(k,l),&(m,n),&(o,p),&(q,r),&(s,t),&(u,v),&(w,x),&(y,z))"})
}

// mixed makes words that have each of rows, its letters in their order.
func mixed(next func(below int) int, rows []string, many int) []string {
	words := []string{}
	for range many {
		left, w := slices.Clone(rows), ""
		for len(left) > 0 {
			k := next(len(left))
			w, left[k] = w+left[k][:1], left[k][1:]
			if left[k] == "" {
				left = slices.Delete(left, k, k+1)
			}
		}
		words = append(words, w)
	}
	return words
}

// Nets with as many marks as blocks can have, and logs as large as may be.
func TestTellLarge(t *testing.T) {
	next := chance(41)
	fits(t, "four rows beside one", mixed(next, strings.Fields("ab cd ef gh i"), api.MaxTraces), "&(>(a,b),>(c,d),>(e,f),>(g,h),i)")
	fits(t, "seven side by side", mixed(next, strings.Split("abcdefg", ""), api.MaxTraces), "&(a,b,c,d,e,f,g)")
	tells(t, "eight", lines(mixed(next, strings.Split("abcdefgh", ""), api.MaxTraces)...), api.Report{Err: api.ErrFull, Block: "&(a,b,c,d,e,f,g,h)"})
	rounds := []string{strings.Repeat("a", 20), strings.Repeat("b", 20), strings.Repeat("c", 19), "d"}
	round := append(mixed(next, rounds, api.MaxTraces-1), "abcd")
	fits(t, "three that go round beside one", round, "&(*(a,-),*(b,-),*(c,-),d)")
	var words []string
	for range api.MaxTraces {
		w := "a"
		for len(w) < api.MaxTrace {
			w += alphabet[next(20):][:1]
		}
		words = append(words, w)
	}
	r := Tell(lines(words...))
	if r.Err != api.OK || r.Verdict != api.Sound || len(r.Costs) != api.MaxTraces || slices.Max(r.Costs) != 0 {
		t.Errorf("of large traces comes %v", r)
	}
}

// byParts is what is to be told of log, call by call.
func byParts(log [][]int) api.Report {
	b, err := mine.Mine(log)
	if err != api.OK {
		return api.Report{Err: err}
	}
	s, _ := Print(b)
	n, err := grow.Grow(b)
	if err != api.OK {
		return api.Report{Err: err, Block: s}
	}
	v, err := sound.Judge(n, 0, 1, api.MaxStates)
	if err != api.OK {
		return api.Report{Err: err, Block: s}
	}
	r := api.Report{Block: s, Verdict: v.Kind}
	for _, trace := range log {
		_, cost, _ := align.Align(n, 0, 1, trace)
		r.Costs = append(r.Costs, cost)
	}
	return r
}

// What is found has all that was seen, and is sound.
func TestTellMany(t *testing.T) {
	next := chance(31)
	came := map[string]int{}
	for range 3000 {
		words := madeLog(next)
		log, s := logOf(words), lines(words...)
		want := byParts(log)
		tells(t, "call by call", s, want)
		r := Tell(s)
		if r.Err != api.OK {
			came[fmt.Sprint(r.Err, r.Block != "")]++
			continue
		}
		came["told"]++
		b, rest := read(r.Block)
		if rest != "" || r.Line != 0 || r.Verdict != api.Sound || len(r.Costs) != len(words) {
			t.Errorf("of %q comes %v", s, r)
		}
		for k, trace := range log {
			if r.Costs[k] != 0 || !blocks.Has(b, trace) {
				t.Errorf("%s is found in %q, and trace %d costs %d", r.Block, s, k, r.Costs[k])
			}
		}
	}
	if came["told"] < 1000 || came["4 true"] < 20 {
		t.Errorf("too few to tell: %v", came)
	}
}

// Whatever tracks.Wrong says of a log is told of its text.
func TestTellAsTracksSays(t *testing.T) {
	next := chance(37)
	came := map[api.Errno]int{}
	for range 2000 {
		words := madeLog(next)
		if next(2) == 0 {
			words = append(words, strings.Repeat("q", 55+next(10)))
		} else {
			words = append(words, make([]string, 50+next(15))...)
		}
		if err := tracks.Wrong(logOf(words)); err != api.OK {
			came[err]++
			tells(t, "wrong", lines(words...), api.Report{Err: err})
		}
	}
	if came[api.ErrFull] < 50 || came[api.ErrRange] < 50 {
		t.Errorf("too few to tell: %v", came)
	}
}

// line is a net from place 0 to place 1, of transitions with these labels, one behind the other.
func line(labels ...int) api.Net {
	var kids []api.Block
	for _, label := range labels {
		kids = append(kids, step(label))
	}
	n, _ := grow.Grow(of(api.Seq, kids...))
	return n
}

// What is told of nets, also of those that are not of blocks.
func TestJudged(t *testing.T) {
	ends := api.Tran{Label: 1, Pre: []int{1, 0}, Post: []int{0, 1}}
	twice := api.Tran{Label: 1, Pre: []int{1, 0}, Post: []int{0, 2}}
	lacks := api.Tran{Label: 2, Pre: []int{2, 0}, Post: []int{0, 1}}
	grows := api.Net{Places: 3, Trans: []api.Tran{
		{Label: 1, Pre: []int{1, 0, 0}, Post: []int{0, 0, 1}},
		{Label: 2, Pre: []int{0, 0, 1}, Post: []int{0, 0, 2}},
		{Label: 3, Pre: []int{0, 0, 1}, Post: []int{0, 1, 0}},
	}}
	for _, x := range []struct {
		what string
		n    api.Net
		want api.Report
	}{
		{"sound", api.Net{Places: 2, Trans: []api.Tran{ends}}, api.Report{Verdict: api.Sound, Costs: []int{0, 3, 1}}},
		{"two in a row: the document's twenty-first example", line(1, 2), api.Report{Verdict: api.Sound, Costs: []int{1, 2, 2}}},
		{"extra", api.Net{Places: 2, Trans: []api.Tran{ends, twice}}, api.Report{Verdict: api.Extra, Costs: []int{0, 3, 1}}},
		{"stuck", api.Net{Places: 2, Trans: []api.Tran{lacks}}, api.Report{Verdict: api.Stuck, Costs: []int{0, 0, 0}}},
		{"dead", api.Net{Places: 2, Trans: []api.Tran{ends, lacks}}, api.Report{Verdict: api.DeadTran, Costs: []int{0, 3, 1}}},
		{"too many marks", grows, api.Report{Err: api.ErrFull}},
		{"no way to the end", api.Net{Places: 2}, api.Report{Err: api.ErrForm}},
		{"wrong", api.Net{Places: -1}, api.Report{Err: api.ErrRange}},
	} {
		if r := judged(x.n, [][]int{{1}, {2, 5}, nil}); !reportsSame(r, x.want) {
			t.Errorf("%s: %v, not %v", x.what, r, x.want)
		}
	}
}

// counting makes a net that is sound and has 296 marks, and one more for each label of ahead, which come first: then of 6, 6 and 5 tokens each goes on alone.
func counting(ahead ...int) api.Net {
	n := line(append(ahead, 26)...)
	last := &n.Trans[len(ahead)]
	joins := api.Tran{Pre: make([]int, n.Places), Post: last.Post}
	last.Post = make([]int, n.Places)
	for _, many := range []int{6, 6, 5} {
		for k := range n.Trans {
			n.Trans[k].Pre = append(n.Trans[k].Pre, 0, 0)
			n.Trans[k].Post = append(n.Trans[k].Post, 0, 0)
		}
		last = &n.Trans[len(ahead)]
		last.Post[n.Places] = many
		joins.Pre, joins.Post = append(joins.Pre, 0, many), append(joins.Post, 0, 0)
		on := api.Tran{Pre: make([]int, n.Places+2), Post: make([]int, n.Places+2)}
		on.Pre[n.Places], on.Post[n.Places+1] = 1, 1
		n.Places += 2
		n.Trans = append(n.Trans, on)
	}
	n.Trans = append(n.Trans, joins)
	return n
}

// There is room for just MaxStates marks.
func TestRoom(t *testing.T) {
	for _, ahead := range [][]int{{}, {1, 2, 3}, {1, 2, 3, 4}} {
		want := api.Report{Verdict: api.Sound, Costs: []int{len(ahead) + 1, 0}}
		if r := judged(counting(ahead...), [][]int{nil, append(ahead, 26)}); !reportsSame(r, want) {
			t.Errorf("%d marks: %v, not %v", 296+len(ahead), r, want)
		}
	}
	if r := judged(counting(1, 2, 3, 4, 5), [][]int{nil}); !reportsSame(r, api.Report{Err: api.ErrFull}) {
		t.Errorf("301 marks: %v", r)
	}
}

// What each trace costs is told in the order of the traces, each for itself.
func TestCosts(t *testing.T) {
	anything, _ := grow.Grow(of(api.Loop, silence(), of(api.Choice, step(1), step(2))))
	long := slices.Repeat([]int{3}, api.MaxTrace)
	for _, x := range []struct {
		n    api.Net
		log  [][]int
		want []int
	}{
		{line(1, 2), nil, nil},
		{line(1, 2), [][]int{{1, 2}}, []int{0}},
		{line(1, 2), [][]int{{2, 5}, {1, 2}, {2, 1}, nil, {5, 5, 5}, {1, 2}}, []int{2, 0, 2, 2, 5, 0}},
		{anything, [][]int{nil, {1, 2, 2, 1}, {3}, {1, 3, 3}, long}, []int{0, 0, 1, 2, api.MaxTrace}},
	} {
		if got := costs(x.n, x.log); !slices.Equal(got, x.want) {
			t.Errorf("%v: %v, not %v", x.log, got, x.want)
		}
	}
}

// What is told beside a block hangs on it, and on the traces.
func TestTried(t *testing.T) {
	for _, x := range []struct {
		b    api.Block
		want api.Report
	}{
		{of(api.Seq, step(1), step(2)), api.Report{Verdict: api.Sound, Costs: []int{2, 0}}},
		{of(api.Both, step(2), step(5)), api.Report{Verdict: api.Sound, Costs: []int{0, 2}}},
		{of(api.Choice, steps(25)...), api.Report{Err: api.ErrFull}},
		{of(api.Seq), api.Report{Err: api.ErrForm}},
	} {
		if r := tried(x.b, [][]int{{2, 5}, {1, 2}}); !reportsSame(r, x.want) {
			t.Errorf("%v: %v, not %v", x.b, r, x.want)
		}
	}
}

// Neither calls ahead of it nor what became of their answers can be told from an answer.
func TestTheSameAgain(t *testing.T) {
	want := api.Report{Block: ">(a,&(b,c),d)", Verdict: api.Sound, Costs: []int{0, 0}}
	for range 50 {
		tells(t, "again", "abcd\nacbd\n", want)
		r := Tell("abcd\nacbd\n")
		r.Costs[0], r.Costs[1] = 7, 8
		logFails(t, "between", "ab\n\nb", 2)
		tells(t, "between", alphabet[:16]+"\n", api.Report{Err: api.ErrFull, Block: ">(" + spelt(alphabet[:16], ",") + ")"})
	}
}

func Example() {
	r := Tell("abcd\nacbd\n")
	fmt.Println(r.Block, r.Verdict == api.Sound, r.Costs)
	r = Tell("ab\nB\n")
	fmt.Println(r.Err == api.ErrForm, r.Line)
	// Output:
	// >(a,&(b,c),d) true [0 0]
	// true 1
}
