package mine

import (
	"fmt"
	"math"
	"reflect"
	"slices"
	"strings"
	"testing"

	"tokenhall/api"
	"tokenhall/blocks"
	"tokenhall/tracks"
)

// alphabet are the letters of all labels.
const alphabet = "abcdefghijklmnopqrstuvwxyz"

// trace is the labels whose letters stand in s.
func trace(s string) []int {
	var l []int
	for _, c := range []byte(s) {
		l = append(l, int(c)-'a'+1)
	}
	return l
}

// logOf has a trace of each of words.
func logOf(words []string) [][]int {
	var log [][]int
	for _, w := range words {
		log = append(log, trace(w))
	}
	return log
}

// wordsOf is the words of s; - is the one without letters.
func wordsOf(s string) []string {
	words := strings.Fields(s)
	for k, w := range words {
		words[k] = strings.Trim(w, "-")
	}
	return words
}

// letters is the letters of labels.
func letters(labels []int) string {
	var s []byte
	for _, x := range labels {
		s = append(s, byte('a'+x-1))
	}
	return string(s)
}

// told is a block's text; a label or kids that should not be there stand in it, too.
func told(b api.Block) string {
	signs := []string{api.Silent: "-", api.Step: "", api.Seq: ">", api.Choice: "?", api.Both: "&", api.Loop: "*"}
	if b.Kind < api.Silent || b.Kind > api.Loop {
		return fmt.Sprint(b)
	}
	s := signs[b.Kind]
	if b.Label != 0 {
		s += letters([]int{b.Label})
	}
	if len(b.Kids) == 0 {
		return s
	}
	var kids []string
	for _, kid := range b.Kids {
		kids = append(kids, told(kid))
	}
	return s + "(" + strings.Join(kids, ",") + ")"
}

// copied is a log that shares no memory with l.
func copied(l [][]int) [][]int {
	out := make([][]int, len(l))
	for k, trace := range l {
		out[k] = slices.Clone(trace)
	}
	return out
}

// logsSame tells whether both have the same traces; nil and empty are the same.
func logsSame(a, b [][]int) bool { return slices.EqualFunc(a, b, slices.Equal[[]int]) }

// is checks that want is what is found in log.
func is(t *testing.T, what string, log [][]int, want string) {
	t.Helper()
	b, err := Mine(log)
	if err != api.OK || told(b) != want {
		t.Errorf("%s: of %v comes %s, %d, not %s", what, log, told(b), err, want)
	}
	if e := blocks.Wrong(b); err == api.OK && e != api.OK {
		t.Errorf("%s: of %v comes a block that is wrong: %d", what, log, e)
	}
}

// fails checks that want comes of log, and nothing beside.
func fails(t *testing.T, what string, log [][]int, want api.Errno) {
	t.Helper()
	b, err := Mine(log)
	if err != want {
		t.Errorf("%s: of %v comes %d, not %d", what, log, err, want)
	}
	if !reflect.DeepEqual(b, api.Block{}) {
		t.Errorf("%s: beside the error stands %s", what, told(b))
	}
}

// example is words, and the text of what is found in them.
type example struct{ what, words, want string }

func all(t *testing.T, l []example) {
	t.Helper()
	for _, c := range l {
		is(t, c.what, logOf(wordsOf(c.words)), c.want)
	}
}

// W2, ahead of what is split.
func TestFewLabels(t *testing.T) {
	all(t, []example{
		{"no trace", "", "-"},
		{"a trace without labels", "-", "-"},
		{"many of these", "- - -", "-"},
		{"one label", "a", "a"},
		{"the greatest label", "z", "z"},
		{"in many traces it is not more than once", "g g g", "g"},
		{"twice in one trace", "gg", "*(g,-)"},
		{"more often", "gggg", "*(g,-)"},
		{"more than once in some trace", "g ggg g", "*(g,-)"},
		{"in the last one", "g g gg", "*(g,-)"},
		{"one label, or none", "- a", "?(-,a)"},
		{"Silent comes first, wherever it was seen", "a a -", "?(-,a)"},
		{"and once", "- a - -", "?(-,a)"},
		{"more than once, or none", "aa - a", "?(-,*(a,-))"},
		{"none is not ahead of or behind anything", "a - a", "?(-,a)"},
		{"a Choice within stays a Choice of its own", "- a b", "?(-,?(a,b))"},
		{"two labels, or none", "ab -", "?(-,>(a,b))"},
	})
	is(t, "a list without traces", [][]int{}, "-")
	is(t, "lists without labels", [][]int{{}, nil}, "-")
	is(t, "lists without labels beside one with some", [][]int{{}, {1}, nil}, "?(-,a)")
}

// W2, 1.
func TestChoice(t *testing.T) {
	all(t, []example{
		{"two labels that never meet", "a b", "?(a,b)"},
		{"by their labels, not by their traces", "c b a", "?(a,b,c)"},
		{"all labels", strings.Join(strings.Split(alphabet, ""), " "), "?(" + strings.Join(strings.Split(alphabet, ""), ",") + ")"},
		{"by the least label, even if it is the last one", "db ca", "?(>(c,a),>(d,b))"},
		{"or in the midst", "dbe fag", "?(>(f,a,g),>(d,b,e))"},
		{"what is behind itself is not linked with others", "aa b", "?(*(a,-),b)"},
		{"one behind the other in some trace is enough", "a b ba", ">(?(-,b),?(-,a))"},
		{"linked by way of a third one", "ac bc d", "?(>(?(a,b),c),d)"},
		{"by way of the greatest one", "az d bz", "?(>(?(a,b),z),d)"},
		{"either way", "ba c", "?(>(b,a),c)"},
		{"side by side, or in a row", "ab cd dc", "?(>(a,b),&(c,d))"},
		{"all traces that begin in the group", "ab c b d c", "?(>(?(-,a),b),c,d)"},
		{"no trace of another group stands in it as one without labels", "aa a b bb", "?(*(a,-),*(b,-))"},
	})
}

// W2, 2.
func TestSeq(t *testing.T) {
	all(t, []example{
		{"in a row", "abc", ">(a,b,c)"},
		{"by what leads, not by labels", "cba", ">(c,b,a)"},
		{"all labels", alphabet, ">(" + strings.Join(strings.Split(alphabet, ""), ",") + ")"},
		{"the document's twenty-third example", "abcd acbd", ">(a,&(b,c),d)"},
		{"neither leads to the other", "abd acd", ">(a,?(b,c),d)"},
		{"each leads to the other", "ababc", ">(*(-,?(a,b)),c)"},
		{"by way of itself", "abbc", ">(a,*(b,-),c)"},
		{"one may lack", "ac abc", ">(a,?(-,b),c)"},
		{"leads by way of another one", "ab bc", ">(?(-,a),b,?(-,c))"},
		{"by way of many", "ab bc cd de ef", ">(?(-,a),?(-,b),?(-,c),?(-,d),?(-,e),?(-,f))"},
		{"by way of a greater one", "az zb", ">(?(-,a),z,?(-,b))"},
		{"by way of greater and lesser ones", "dz za ay yc", ">(?(-,d),?(-,z),?(-,a),?(-,y),?(-,c))"},
		{"round and round in the midst", "abcbd", ">(a,*(-,?(b,c)),d)"},
		{"in one group by way of a third one", "dab dc", ">(d,?(>(a,b),c))"},
		{"group behind group, whatever their labels", "zxy zyx", ">(z,&(x,y))"},
		{"the least label is in the last group", "zyab zyba", ">(z,y,&(a,b))"},
		{"rows in a choice in a row", "yabx ycdx", ">(y,?(>(a,b),>(c,d)),x)"},
	})
}

// W2, 3.
func TestBoth(t *testing.T) {
	all(t, []example{
		{"in either order", "ab ba", "&(a,b)"},
		{"three in any order", "abc acb bac bca cab cba", "&(a,b,c)"},
		{"a row beside one", "abc acb cab", "&(>(a,b),c)"},
		{"a choice beside one: neither is behind the other", "ac ca bc cb", "&(?(a,b),c)"},
		{"one may lack", "ab ba a", "&(a,?(-,b))"},
		{"the other one may lack", "ab ba b", "&(?(-,a),b)"},
		{"more than once beside one", "aab aba baa", "&(*(a,-),b)"},
		{"by their least labels", "dacb dcab dcba cbda cdba cdab", "&(>(d,a),>(c,b))"},
		{"a group has no first label", "aba ab", "*(-,?(a,b))"},
		{"a group has no last label", "aba ba", "*(-,?(a,b))"},
		{"a group has neither", "aba", "*(-,?(a,b))"},
		{"no group has both", "abab", "*(-,?(a,b))"},
		{"the last group lacks the first one", "abc bac acb bca acab abcab", "*(-,?(a,b,c))"},
	})
}

// W3.
func TestAnything(t *testing.T) {
	all(t, []example{
		{"round and round", "cbacb", "*(-,?(a,b,c))"},
		{"neither in a row nor side by side", "ab cb cd ed", "*(-,?(a,b,c,d,e))"},
		{"some meet, some do not", "abcad dcb", "*(-,?(a,b,c,d))"},
		{"or nothing at all", "ace bdf ade -", "?(-,*(-,?(a,b,c,d,e,f)))"},
		{"there and back", "zyxyz", "*(-,?(x,y,z))"},
		{"in a row", "abcdef adbecf abdecf", ">(a,*(-,?(b,c,d,e)),f)"},
		{"in a choice", "aba c", "?(*(-,?(a,b)),c)"},
		{"all labels", alphabet + "a", "*(-,?(" + strings.Join(strings.Split(alphabet, ""), ",") + "))"},
	})
}

// inRow makes words, and tells what is found in them: lack + more labels in a row, of which the first lack ones may lack, and often on either side of where these end are there twice.
func inRow(lack, often, more int) (words []string, want string) {
	whole, kids := "", []string{}
	for k, c := range strings.Split(alphabet[:lack+more], "") {
		whole += c
		kid := c
		if lack-often <= k && k < lack+often {
			whole += c
			kid = "*(" + c + ",-)"
		}
		if k < lack {
			kid = "?(-," + kid + ")"
		}
		kids = append(kids, kid)
	}
	words = []string{whole}
	for _, c := range strings.Split(alphabet[:lack], "") {
		words = append(words, strings.ReplaceAll(whole, c, ""))
	}
	return words, ">(" + strings.Join(kids, ",") + ")"
}

// blocksIn is how many blocks the text s has.
func blocksIn(s string) int {
	return len(s) - strings.Count(s, "(") - strings.Count(s, ")") - strings.Count(s, ",")
}

// MaxBlocks blocks are found; one more is too many.
func TestMaxBlocks(t *testing.T) {
	came := map[int]int{}
	check := func(words []string, want string) {
		many := blocksIn(want)
		came[many]++
		if many > api.MaxBlocks {
			fails(t, want, logOf(words), api.ErrFull)
		} else {
			is(t, "in a row", logOf(words), want)
		}
	}
	for lack := range api.MaxLabel + 1 {
		for more := range api.MaxLabel - lack + 1 {
			for often := range min(lack, more) + 1 {
				if lack+more > 1 {
					words, want := inRow(lack, often, more)
					check(words, want)
					check(append(words, ""), "?(-,"+want+")")
				}
			}
		}
	}
	for _, many := range []int{api.MaxBlocks - 1, api.MaxBlocks, api.MaxBlocks + 1, api.MaxBlocks + 2} {
		if came[many] == 0 {
			t.Errorf("no log has %d blocks", many)
		}
	}
	fails(t, "by far too many", logOf([]string{alphabet, alphabet[1:], "aabbccddeeffgghhiijjkkllmmnnooppqqrrssttuuvvwwxxyyzz", ""}), api.ErrFull)
}

// Too many blocks are too many, whichever kinds they are of.
func TestMaxBlocksOfKinds(t *testing.T) {
	pairs := strings.Fields("ab cd ef gh ij kl mn op qr st uv wx yz")
	var words []string
	for _, p := range pairs {
		words = append(words, p, p[1:]+p[:1])
	}
	want := "?(&(a,b),&(c,d),&(e,f),&(g,h),&(i,j),&(k,l),&(m,n),&(o,p),&(q,r),&(s,t),&(u,v),&(w,x),&(y,z))"
	if blocksIn(want) != api.MaxBlocks {
		t.Fatalf("%s has %d blocks", want, blocksIn(want))
	}
	is(t, "as many as may be", logOf(words), want)
	fails(t, "or nothing", logOf(append(words, "")), api.ErrFull)
	fails(t, "one may lack", logOf(append(words, "a")), api.ErrFull)
	fails(t, "one more than once", logOf(append(words, "aab")), api.ErrFull)
	words[0], words[1] = "a", "b"
	is(t, "one block fewer", logOf(words), "?(a,b,"+want[len("?(&(a,b),"):])
}

// Of a log that is wrong tracks.Wrong's error comes.
func TestWrong(t *testing.T) {
	seven := []int{7}
	long := slices.Repeat(seven, api.MaxTrace)
	is(t, "as long as may be", [][]int{long}, "*(g,-)")
	is(t, "as many as may be", slices.Repeat([][]int{long}, api.MaxTraces), "*(g,-)")
	is(t, "as many as may be, of each once", slices.Repeat([][]int{seven}, api.MaxTraces), "g")
	is(t, "as many as may be without labels", make([][]int, api.MaxTraces), "-")
	is(t, "the last of all", append(slices.Repeat([][]int{seven}, api.MaxTraces-1), append(slices.Repeat(seven, api.MaxTrace-1), 8)), ">(*(g,-),?(-,h))")
	for _, many := range []int{api.MaxTraces + 1, api.MaxTraces + 2, 2 * api.MaxTraces, 100000} {
		fails(t, "too many", slices.Repeat([][]int{seven}, many), api.ErrFull)
		fails(t, "too many without labels", make([][]int, many), api.ErrFull)
		fails(t, "too many, and wrong ones", slices.Repeat([][]int{{0}}, many), api.ErrFull)
	}
	for _, many := range []int{api.MaxTrace + 1, api.MaxTrace + 2, 2 * api.MaxTrace, 100000} {
		fails(t, "too long", [][]int{slices.Repeat(seven, many)}, api.ErrRange)
		fails(t, "too long, behind others", [][]int{nil, seven, slices.Repeat(seven, many)}, api.ErrRange)
	}
	full, _ := inRow(20, 0, 0)
	for _, x := range []int{0, -1, 27, 28, 256, 257, 1 << 32, 1<<32 + 1, math.MinInt, math.MinInt + 1, math.MaxInt} {
		fails(t, "no label", [][]int{{x}}, api.ErrRange)
		fails(t, "no label among some", [][]int{nil, {1, 2}, {1, x, 2}}, api.ErrRange)
		fails(t, "no label, and too many blocks", append(logOf(full), []int{x}), api.ErrRange)
	}
}

// byWords tells what is found in words, worked out letter by letter.
func byWords(words []string) string {
	joined := strings.Join(words, " ")
	if strings.Trim(joined, " ") == "" {
		return "-"
	}
	if slices.Contains(words, "") {
		return "?(-," + byWords(strings.Fields(joined)) + ")"
	}
	var labels []string
	for _, c := range strings.Split(alphabet, "") {
		if strings.Contains(joined, c) {
			labels = append(labels, c)
		}
	}
	if len(labels) == 1 && strings.Contains(joined, labels[0]+labels[0]) {
		return "*(" + labels[0] + ",-)"
	}
	if len(labels) == 1 {
		return labels[0]
	}
	return splitWords(words, labels, func(a, b string) bool { return strings.Contains(joined, a+b) })
}

// splitWords goes through the three ways of splitting; words are none without letters, labels two or more.
func splitWords(words, labels []string, behind func(a, b string) bool) string {
	leads := waysFrom(labels, behind)
	either := func(a, b string) bool { return behind(a, b) || behind(b, a) }
	if parts := joinedBy(labels, either); len(parts) > 1 {
		return eachPart("?", parts, func(part string) []string {
			return slices.DeleteFunc(slices.Clone(words), func(w string) bool { return !strings.Contains(part, w[:1]) })
		})
	}
	onto := func(part string) []string {
		out := slices.Clone(words)
		for _, c := range labels {
			if !strings.Contains(part, c) {
				for k, w := range out {
					out[k] = strings.ReplaceAll(w, c, "")
				}
			}
		}
		return out
	}
	alike := func(a, b string) bool {
		there, back := leads(a, b), leads(b, a)
		return there && back || !there && !back
	}
	if parts := joinedBy(labels, alike); len(parts) > 1 {
		ahead := func(part string) int {
			n := 0
			for _, other := range parts {
				if other != part && leads(other[len(other)-1:], part[len(part)-1:]) {
					n++
				}
			}
			return n
		}
		sorted := slices.Clone(parts)
		for _, part := range parts {
			sorted[ahead(part)] = part
		}
		return eachPart(">", sorted, onto)
	}
	first, last := "", ""
	for _, w := range words {
		first, last = first+w[:1], last+w[len(w)-1:]
	}
	lacks := func(part string) bool { return !strings.ContainsAny(part, first) || !strings.ContainsAny(part, last) }
	parts := joinedBy(labels, func(a, b string) bool { return !(behind(a, b) && behind(b, a)) })
	if len(parts) > 1 && !slices.ContainsFunc(parts, lacks) {
		return eachPart("&", parts, onto)
	}
	return "*(-,?(" + strings.Join(labels, ",") + "))"
}

// eachPart tells what is found part by part.
func eachPart(sign string, parts []string, wordsOf func(part string) []string) string {
	var kids []string
	for _, part := range parts {
		kids = append(kids, byWords(wordsOf(part)))
	}
	return sign + "(" + strings.Join(kids, ",") + ")"
}

// waysFrom tells who leads to whom: from each label one goes on until nothing is new.
func waysFrom(labels []string, behind func(a, b string) bool) func(a, b string) bool {
	been := map[string]string{}
	for _, a := range labels {
		for before := "?"; before != been[a]; {
			before = been[a]
			for _, b := range labels {
				if !strings.Contains(before, b) && slices.ContainsFunc(strings.Split(before+a, ""), func(x string) bool { return behind(x, b) }) {
					been[a] += b
				}
			}
		}
	}
	return func(a, b string) bool { return strings.Contains(been[a], b) }
}

// joinedBy joins, again and again, two parts that have two linked labels; by the least ones, rising within.
func joinedBy(labels []string, linked func(a, b string) bool) []string {
	parts := slices.Clone(labels)
again:
	for i := range parts {
		for j := range i {
			for _, a := range strings.Split(parts[i], "") {
				for _, b := range strings.Split(parts[j], "") {
					if linked(a, b) {
						both := strings.Split(parts[i]+parts[j], "")
						slices.Sort(both)
						parts[j] = strings.Join(both, "")
						parts = slices.Delete(parts, i, i+1)
						goto again
					}
				}
			}
		}
	}
	slices.Sort(parts)
	return parts
}

// chance makes numbers that look as if they hung on nothing.
func chance(seed uint32) func(below int) int {
	return func(below int) int {
		seed = seed*1664525 + 1013904223
		return int(seed>>8) % below
	}
}

// anyBlock makes a block, up to depth kids within kids.
func anyBlock(next func(below int) int, depth, labels int) api.Block {
	if depth == 0 || next(4) == 0 {
		if next(8) == 0 {
			return api.Block{Kind: api.Silent}
		}
		return api.Block{Kind: api.Step, Label: 1 + next(labels)}
	}
	b := api.Block{Kind: api.Seq + next(4)}
	many := 2
	if b.Kind != api.Loop {
		many += next(2)
	}
	for range many {
		b.Kids = append(b.Kids, anyBlock(next, depth-1, labels))
	}
	return b
}

// madeLog makes words: of a block, with some of them spoilt at times; or letters as they come.
func madeLog(next func(below int) int) []string {
	var words []string
	labels := 1 + next(8)
	if next(3) > 0 {
		l, _ := blocks.Words(anyBlock(next, 1+next(3), labels), 3+next(4))
		for _, w := range l {
			if next(4) > 0 && len(words) < api.MaxTraces {
				words = append(words, letters(w))
			}
		}
		if len(words) > 0 && next(4) == 0 {
			k := next(len(words))
			words[k] = words[k][:next(len(words[k])+1)] + alphabet[next(labels):][:1]
		}
		return words
	}
	for range next(6) {
		w := ""
		for range next(7) {
			w += alphabet[next(labels):][:1]
		}
		words = append(words, w)
	}
	return words
}

func TestManyLogs(t *testing.T) {
	next := chance(23)
	came := map[string]int{}
	for range 20000 {
		words := madeLog(next)
		log, want := logOf(words), byWords(words)
		if blocksIn(want) > api.MaxBlocks {
			fails(t, want, log, api.ErrFull)
			continue
		}
		is(t, "as it is told", log, want)
		for _, way := range []string{"-", "?(-,", "?(a", ",-)", ">(", "&(", "*(-,?(", ">(&", "&(>", "?(>", "&(?", ">(?", "?(&"} {
			if strings.Contains(want, way) {
				came[way]++
			}
		}
	}
	for way, n := range came {
		if n < 50 {
			t.Errorf("%s came %d times: too few to tell", way, n)
		}
	}
	if len(came) != 13 {
		t.Errorf("some never came: %v", came)
	}
}

// Long traces of many labels: what is found there is mostly anything, and still found.
func TestLargeLogs(t *testing.T) {
	next := chance(5)
	for range 300 {
		labels := 2 + next(25)
		var words []string
		for range 1 + next(api.MaxTraces) {
			w := ""
			for range next(api.MaxTrace + 1) {
				w += alphabet[next(labels):][:1]
			}
			words = append(words, w)
		}
		if want := byWords(words); blocksIn(want) <= api.MaxBlocks {
			is(t, "a large one", logOf(words), want)
		} else {
			fails(t, "a large one", logOf(words), api.ErrFull)
		}
	}
}

// What is found has all that was seen.
func TestHasAllThatWasSeen(t *testing.T) {
	next := chance(7)
	for range 4000 {
		log := logOf(madeLog(next))
		b, err := Mine(log)
		if err != api.OK {
			continue
		}
		for _, trace := range log {
			if !blocks.Has(b, trace) {
				t.Errorf("%s is found in %v, and does not have %v", told(b), log, trace)
			}
		}
	}
}

// treeOf makes a block whose labels are those of labels, each once, without Silent and Loop, and with no kid of its own kind: kids of Choice and of Both stand by their least labels.
func treeOf(next func(below int) int, labels []int, notKind int) api.Block {
	if len(labels) == 1 {
		return api.Block{Kind: api.Step, Label: labels[0]}
	}
	b := api.Block{Kind: api.Seq + next(3)}
	if b.Kind == notKind {
		b.Kind = api.Seq + (notKind-api.Seq+1)%3
	}
	var parts [][]int
	for many := 2 + next(len(labels)-1); many > 0; many-- {
		parts = append(parts, labels[:1:1])
		labels = labels[1:]
	}
	for _, label := range labels {
		k := next(len(parts))
		parts[k] = append(parts[k], label)
	}
	if b.Kind != api.Seq {
		slices.SortFunc(parts, func(a, b []int) int { return slices.Min(a) - slices.Min(b) })
	}
	for _, part := range parts {
		b.Kids = append(b.Kids, treeOf(next, part, b.Kind))
	}
	return b
}

// A block whose labels are there once, and of which all words were seen, is found again.
func TestFoundAgain(t *testing.T) {
	next := chance(11)
	came := 0
	for range 3000 {
		labels := trace(alphabet)
		for k := range labels {
			j := k + next(len(labels)-k)
			labels[k], labels[j] = labels[j], labels[k]
		}
		b := treeOf(next, labels[:1+next(api.MaxLength)], 0)
		words, err := blocks.Words(b, api.MaxLength)
		if err != api.OK || len(words) > api.MaxTraces {
			continue
		}
		came++
		is(t, "again", words, told(b))
		slices.Reverse(words)
		is(t, "again, from the last word on", words, told(b))
	}
	if came < 1000 {
		t.Errorf("%d blocks were small enough: too few to tell", came)
	}
}

// In which order traces stand, and how often, is the same.
func TestOrderOfTraces(t *testing.T) {
	next := chance(13)
	for range 3000 {
		log := logOf(madeLog(next))
		want, err := Mine(log)
		other := copied(log)
		for k := range other {
			j := k + next(len(other)-k)
			other[k], other[j] = other[j], other[k]
		}
		other = append(other, log[:min(len(log), api.MaxTraces-len(log))]...)
		if got, e := Mine(other); e != err || told(got) != told(want) {
			t.Errorf("of %v comes %s, %d, and of %v %s, %d", log, told(want), err, other, told(got), e)
		}
	}
}

// Neither calls ahead of it nor the order of a map can be told from an answer.
func TestTheSameAgain(t *testing.T) {
	for _, words := range []string{"abcd acbd", "dacb dcab dcba cbda cdba cdab", "ab cb cd ed", "- a b", "zy yx xw"} {
		want := byWords(wordsOf(words))
		for range 20 {
			is(t, "between", logOf([]string{"ba", "c"}), "?(>(b,a),c)")
			is(t, "again", logOf(wordsOf(words)), want)
		}
	}
}

// What was handed in is only read, and neither it nor what was answered is kept.
func TestOnlyRead(t *testing.T) {
	for _, words := range []string{"", "-", "a aa", "abcd acbd -", "dacb dcab dcba cbda cdba cdab", "ab cb cd ed", "b a c"} {
		log := logOf(wordsOf(words))
		in, want := copied(log), byWords(wordsOf(words))
		got, _ := Mine(in)
		if !logsSame(in, log) {
			t.Errorf("what was handed in was changed: %v, not %v", in, log)
		}
		for _, trace := range in {
			clear(trace)
		}
		clear(in)
		if told(got) != want {
			t.Errorf("what was answered was changed: %s, not %s", told(got), want)
		}
		clear(got.Kids)
		is(t, "once more", log, want)
	}
}

// spoil changes all that is within b, and the room behind it, numbered as it comes.
func spoil(b *api.Block, number *int) {
	*number++
	b.Label = *number
	for k := range b.Kids {
		spoil(&b.Kids[k], number)
	}
	b.Kids = append(b.Kids, api.Block{Kind: -*number})
}

// spoilt tells whether b is as spoil left it.
func spoilt(b api.Block, number *int) bool {
	*number++
	if b.Label != *number || len(b.Kids) == 0 {
		return false
	}
	for _, kid := range b.Kids[:len(b.Kids)-1] {
		if !spoilt(kid, number) {
			return false
		}
	}
	return b.Kids[len(b.Kids)-1].Kind == -*number
}

// No two lists of an answer share memory, nor the room behind them.
func TestOwnMemory(t *testing.T) {
	for _, words := range []string{"-", "aa", "abcd acbd -", "dacb dcab dcba cbda cdba cdab", "ab cb cd ed", "aa bb ccd -"} {
		b, _ := Mine(logOf(wordsOf(words)))
		again, number := 0, 0
		spoil(&b, &number)
		if !spoilt(b, &again) {
			t.Errorf("lists of what is found in %s share memory", words)
		}
	}
}

// Behind the end of a list there may be spare room: it is neither looked at nor changed.
func TestSpareRoom(t *testing.T) {
	spare := func(s string) []int { return append(trace(s), 5, 0, -77)[:len(s)] }
	traces := [][]int{spare("ab"), spare("ba"), spare(""), spare("ccd"), {9}, {0}}
	is(t, "spare room", traces[:4], "?(-,?(&(a,b),>(*(c,-),d)))")
	for k, l := range traces[:4] {
		if !slices.Equal(l[:len(l)+3][len(l):], []int{5, 0, -77}) {
			t.Errorf("trace %d: the room behind it was changed: %v", k, l[:len(l)+3])
		}
	}
	if !logsSame(traces[4:], [][]int{{9}, {0}}) {
		t.Errorf("the room behind the log was changed: %v", traces)
	}
	full := slices.Repeat([][]int{slices.Repeat([]int{7}, api.MaxTrace+1)[:api.MaxTrace]}, api.MaxTraces+1)
	is(t, "a full log with spare room", full[:api.MaxTraces], "*(g,-)")
}

// Whatever tracks.Wrong says is what Mine says, of logs that are wrong in many ways.
func TestAsTracksSays(t *testing.T) {
	next := chance(17)
	came := map[api.Errno]int{}
	for range 3000 {
		log := logOf(madeLog(next))
		switch next(4) {
		case 0:
			log = append(log, []int{next(40) - 5})
		case 1:
			log = append(log, slices.Repeat([]int{1 + next(26)}, 55+next(10)))
		case 2:
			log = append(log, make([][]int, 50+next(15))...)
		}
		if err := tracks.Wrong(log); err != api.OK {
			came[err]++
			fails(t, "wrong", log, err)
		}
	}
	if came[api.ErrFull] < 50 || came[api.ErrRange] < 50 {
		t.Errorf("too few to tell: %v", came)
	}
}

func Example() {
	b, err := Mine([][]int{{1, 2, 3, 4}, {1, 3, 2, 4}})
	fmt.Println(told(b), err)
	_, err = Mine([][]int{{27}})
	fmt.Println(err == api.ErrRange)
	// Output:
	// >(a,&(b,c),d) 0
	// true
}
