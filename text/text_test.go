package text

import (
	"fmt"
	"math"
	"reflect"
	"slices"
	"strconv"
	"strings"
	"testing"

	"tokenhall/api"
	"tokenhall/grow"
	"tokenhall/net"
)

// one is a net of one transition, of as many places as it tells.
func one(label int, pre, post []int) api.Net {
	return api.Net{Places: len(pre), Trans: []api.Tran{{Label: label, Pre: pre, Post: post}}}
}

// at is the weight w at one of so many places.
func at(places, p, w int) []int {
	l := make([]int, places)
	l[p] = w
	return l
}

// largest is the net with the longest text.
func largest() api.Net {
	n := api.Net{Places: api.MaxPlaces}
	for range api.MaxTrans {
		l := slices.Repeat([]int{api.MaxWeight}, api.MaxPlaces)
		n.Trans = append(n.Trans, api.Tran{Label: api.MaxLabel, Pre: l, Post: slices.Clone(l)})
	}
	return n
}

// same holds nil and empty lists to be the same.
func same(a, b api.Net) bool {
	return a.Places == b.Places && slices.EqualFunc(a.Trans, b.Trans, func(s, t api.Tran) bool {
		return s.Label == t.Label && slices.Equal(s.Pre, t.Pre) && slices.Equal(s.Post, t.Post)
	})
}

// text is n's text, and fails if there is none.
func text(t *testing.T, n api.Net) string {
	t.Helper()
	s, err := Print(n)
	if err != api.OK {
		t.Fatalf("%v: %d", n, err)
	}
	return s
}

// Both ways: the net's text, and the text's net.
func TestTexts(t *testing.T) {
	nine := " 9*0 9*1 9*2 9*3 9*4 9*5 9*6 9*7 9*8 9*9 9*10 9*11 9*12 9*13 9*14 9*15"
	for _, c := range []struct {
		n    api.Net
		want string
	}{
		{api.Net{}, "net 0\n"},
		{api.Net{Trans: []api.Tran{}}, "net 0\n"},
		{api.Net{Places: 1}, "net 1\n"},
		{api.Net{Places: 9}, "net 9\n"},
		{api.Net{Places: 10}, "net 10\n"},
		{api.Net{Places: 11}, "net 11\n"},
		{api.Net{Places: api.MaxPlaces}, "net 16\n"},
		{one(0, nil, nil), "net 0\n- : >\n"},
		{one(3, []int{}, []int{}), "net 0\nc : >\n"},
		{api.Net{Trans: make([]api.Tran, api.MaxTrans)}, "net 0\n" + strings.Repeat("- : >\n", api.MaxTrans)},
		{one(0, []int{0}, []int{0}), "net 1\n- : >\n"},
		{one(1, []int{1}, []int{0}), "net 1\na : 0 >\n"},
		{one(1, []int{0}, []int{1}), "net 1\na : > 0\n"},
		{one(1, []int{1}, []int{1}), "net 1\na : 0 > 0\n"},
		{one(1, []int{2}, []int{9}), "net 1\na : 2*0 > 9*0\n"},
		{one(2, []int{1, 0, 2}, []int{0, 1, 0}), "net 3\nb : 0 2*2 > 1\n"},
		{one(api.MaxLabel, []int{1, 1}, []int{9, 1}), "net 2\nz : 0 1 > 9*0 1\n"},
		{one(25, []int{0, 0, 8}, []int{0, 3, 0}), "net 3\ny : 8*2 > 3*1\n"},
		{one(5, at(16, 15, 1), at(16, 10, 2)), "net 16\ne : 15 > 2*10\n"},
		{one(5, at(16, 1, 1), at(16, 11, 1)), "net 16\ne : 1 > 11\n"},
		{api.Net{Places: 2, Trans: []api.Tran{
			{Label: 2, Pre: []int{0, 1}, Post: []int{1, 0}},
			{Label: 1, Pre: []int{1, 0}, Post: []int{0, 1}},
			{Label: 2, Pre: []int{0, 1}, Post: []int{1, 0}},
		}}, "net 2\nb : 1 > 0\na : 0 > 1\nb : 1 > 0\n"},
		{largest(), "net 16\n" + strings.Repeat("z :"+nine+" >"+nine+"\n", api.MaxTrans)},
	} {
		if got, err := Print(c.n); got != c.want || err != api.OK {
			t.Errorf("%v: %q, %d, not %q", c.n, got, err, c.want)
		}
		if got, line, err := Parse(c.want); !same(got, c.n) || line != 0 || err != api.OK {
			t.Errorf("%q: %v, %d, %d, not %v", c.want, got, line, err, c.n)
		}
	}
}

func TestLabels(t *testing.T) {
	for label := range api.MaxLabel + 1 {
		letter := "-"
		if label > 0 {
			letter = string(rune('a' + label - 1))
		}
		n, want := one(label, []int{1}, []int{2}), "net 1\n"+letter+" : 0 > 2*0\n"
		if got := text(t, n); got != want {
			t.Errorf("label %d: %q", label, got)
		}
		if got, line, err := Parse(want); !same(got, n) || line != 0 || err != api.OK {
			t.Errorf("%q: %v, %d, %d", want, got, line, err)
		}
	}
}

// changed is a right net with one thing that is different.
func changed(change func(n *api.Net)) api.Net {
	n := api.Net{Places: 2, Trans: []api.Tran{
		{Label: 1, Pre: []int{1, 0}, Post: []int{0, 1}},
		{Label: 2, Pre: []int{0, 1}, Post: []int{1, 0}},
	}}
	change(&n)
	return n
}

func TestPrintWrong(t *testing.T) {
	for what, n := range map[string]api.Net{
		"-1 places":               {Places: -1},
		"the fewest places":       {Places: math.MinInt},
		"one place too many":      {Places: api.MaxPlaces + 1},
		"the most places":         {Places: math.MaxInt},
		"too many places, told":   one(1, make([]int, api.MaxPlaces+1), make([]int, api.MaxPlaces+1)),
		"too many without places": {Trans: make([]api.Tran, api.MaxTrans+1)},
		"far too many":            {Trans: make([]api.Tran, 100000)},
		"label -1":                changed(func(n *api.Net) { n.Trans[0].Label = -1 }),
		"the least label":         changed(func(n *api.Net) { n.Trans[0].Label = math.MinInt }),
		"label too large":         changed(func(n *api.Net) { n.Trans[1].Label = api.MaxLabel + 1 }),
		"the largest label":       changed(func(n *api.Net) { n.Trans[1].Label = math.MaxInt }),
		"one place too few":       changed(func(n *api.Net) { n.Places = 1 }),
		"a place more":            changed(func(n *api.Net) { n.Places = 3 }),
		"Pre of nothing":          changed(func(n *api.Net) { n.Trans[1].Pre = nil }),
		"Pre too short":           changed(func(n *api.Net) { n.Trans[0].Pre = []int{1} }),
		"Pre too long":            changed(func(n *api.Net) { n.Trans[0].Pre = []int{1, 0, 0} }),
		"Pre below all":           changed(func(n *api.Net) { n.Trans[0].Pre[1] = -1 }),
		"Pre above all":           changed(func(n *api.Net) { n.Trans[1].Pre[0] = api.MaxWeight + 1 }),
		"Post of nothing":         changed(func(n *api.Net) { n.Trans[0].Post = nil }),
		"Post too short":          changed(func(n *api.Net) { n.Trans[1].Post = []int{1} }),
		"Post too long":           changed(func(n *api.Net) { n.Trans[1].Post = []int{1, 1, 1} }),
		"Post below all":          changed(func(n *api.Net) { n.Trans[1].Post[1] = math.MinInt }),
		"Post above all":          changed(func(n *api.Net) { n.Trans[0].Post[0] = math.MaxInt }),
	} {
		want := net.Wrong(n)
		if want != api.ErrRange {
			t.Errorf("%s: not wrong at all", what)
		}
		if s, err := Print(n); s != "" || err != want {
			t.Errorf("%s: %q, %d", what, s, err)
		}
	}
	if n := changed(func(*api.Net) {}); text(t, n) == "" {
		t.Error("what is changed above is not right to begin with")
	}
}

func TestParseWrong(t *testing.T) {
	long := strings.Repeat("- : >\n", api.MaxTrans)
	for s, want := range map[string]int{
		// The first line.
		"":                           0,
		"\n":                         0,
		" ":                          0,
		"net":                        0,
		"net\n":                      0,
		"net \n":                     0,
		"net 2":                      0,
		"net 0":                      0,
		"net2\n":                     0,
		"net  2\n":                   0,
		"net 2 \n":                   0,
		" net 2\n":                   0,
		"\nnet 2\n":                  0,
		"net 2\r\n":                  0,
		"net\t2\n":                   0,
		"Net 2\n":                    0,
		"nets 2\n":                   0,
		"net 2 2\n":                  0,
		"net 17\n":                   0,
		"net 100\n":                  0,
		"net 00\n":                   0,
		"net 02\n":                   0,
		"net 010\n":                  0,
		"net -1\n":                   0,
		"net -0\n":                   0,
		"net +2\n":                   0,
		"net 1_0\n":                  0,
		"net 0x2\n":                  0,
		"net 2.0\n":                  0,
		"net a\n":                    0,
		"net \xd9\xa2\n":             0,
		"net 2\x00\n":                0,
		"a : 0 > 1\n":                0,
		"net 18446744073709551618\n": 0, // 2 more than go into 64 bits
		"net 17\nx\n":                0,
		"net 17\nx":                  0,
		"net 2\xff\na : 0 > 1\n":     0,

		// A line without an end, even where it would be right with one.
		"net 2\nx":                  1,
		"net 2\n ":                  1,
		"net 2\na : 0 > 1":          1,
		"net 2\na : 0 >":            1,
		"net 2\na : 0 > 1\n- : >":   2,
		"net 2\na : 0 > 1\n-":       2,
		"net 2\na : 0 > 1\nnet 2\n": 2,
		"net 2\nnet 2\n":            1,

		// Lines of nothing, and the first one of several that are wrong.
		"net 2\n\n":                    1,
		"net 2\n\n\n":                  1,
		"net 2\n\na : 0 > 1\n":         1,
		"net 2\na : 0 > 1\n\n":         2,
		"net 2\na : 0 > 1\n\nb":        2,
		"net 2\nx\ny\nz":               1,
		"net 2\n- : >\n- : > 2\n- : 3": 2,

		// Labels.
		"net 2\n : 0 > 1\n":     1,
		"net 2\n: 0 > 1\n":      1,
		"net 2\n  : 0 > 1\n":    1,
		"net 2\nA : 0 > 1\n":    1,
		"net 2\n{ : 0 > 1\n":    1,
		"net 2\n` : 0 > 1\n":    1,
		"net 2\n0 : 0 > 1\n":    1,
		"net 2\n1 : 0 > 1\n":    1,
		"net 2\nab : 0 > 1\n":   1,
		"net 2\nzz : 0 > 1\n":   1,
		"net 2\n-- : 0 > 1\n":   1,
		"net 2\n-a : 0 > 1\n":   1,
		"net 2\n\xc3 : 0 > 1\n": 1,
		"net 2\n\x00 : 0 > 1\n": 1,

		// What stands between.
		"net 2\na\n":               1,
		"net 2\na :\n":             1,
		"net 2\na : 0\n":           1,
		"net 2\na > 1\n":           1,
		"net 2\na >\n":             1,
		"net 2\na: 0 > 1\n":        1,
		"net 2\na :0 > 1\n":        1,
		"net 2\na  : 0 > 1\n":      1,
		"net 2\na :  0 > 1\n":      1,
		"net 2\na : 0> 1\n":        1,
		"net 2\na : 0 >1\n":        1,
		"net 2\na : 0  > 1\n":      1,
		"net 2\na : 0 >  1\n":      1,
		"net 2\na : 0 > 1 \n":      1,
		"net 2\n a : 0 > 1\n":      1,
		"net 2\na : 0 > 1\r\n":     1,
		"net 2\na\t: 0 > 1\n":      1,
		"net 2\n- : > \n":          1,
		"net 2\n- :  >\n":          1,
		"net 2\n- :>\n":            1,
		"net 2\n- > :\n":           1,
		"net 2\n- : > >\n":         1,
		"net 2\n- : : >\n":         1,
		"net 2\na : 0 > 1 > 1\n":   1,
		"net 2\na : 0 > 1 : 0\n":   1,
		"net 2\na : 0 : 0 > 1\n":   1,
		"net 2\na : 0 > 1 a : >\n": 1,

		// Places.
		"net 2\nz : 2 > 0\n":                    1,
		"net 2\nz : 0 > 2\n":                    1,
		"net 0\nz : 0 >\n":                      1,
		"net 0\nz : > 0\n":                      1,
		"net 16\nz : 16 > 0\n":                  1,
		"net 16\nz : 0 > 2*16\n":                1,
		"net 2\nz : 0 0 > 0\n":                  1,
		"net 2\nz : 0 2*0 > 0\n":                1,
		"net 2\nz : 1 0 > 0\n":                  1,
		"net 2\nz : 0 > 1 0\n":                  1,
		"net 2\nz : 0 > 1 1\n":                  1,
		"net 16\nz : 10 9 > 0\n":                1,
		"net 16\nz : 0 > 2*10 2*9\n":            1,
		"net 2\nz : 00 > 0\n":                   1,
		"net 2\nz : 01 > 0\n":                   1,
		"net 2\nz : -0 > 0\n":                   1,
		"net 2\nz : -1 > 0\n":                   1,
		"net 2\nz : +1 > 0\n":                   1,
		"net 2\nz : x > 0\n":                    1,
		"net 2\nz : 0,1 > 0\n":                  1,
		"net 2\nz : 18446744073709551616 > 0\n": 1,

		// Weights.
		"net 2\nz : 0*0 > 0\n":                    1,
		"net 2\nz : 1*0 > 0\n":                    1,
		"net 2\nz : 10*0 > 0\n":                   1,
		"net 2\nz : 0 > 10*0\n":                   1,
		"net 2\nz : 0 > 1*0\n":                    1,
		"net 2\nz : 02*0 > 0\n":                   1,
		"net 2\nz : -2*0 > 0\n":                   1,
		"net 2\nz : +2*0 > 0\n":                   1,
		"net 2\nz : *0 > 0\n":                     1,
		"net 2\nz : 2* > 0\n":                     1,
		"net 2\nz : * > 0\n":                      1,
		"net 2\nz : 2*2*0 > 0\n":                  1,
		"net 2\nz : 2**0 > 0\n":                   1,
		"net 2\nz : 2 *0 > 0\n":                   1,
		"net 2\nz : 2* 0 > 0\n":                   1,
		"net 2\nz : 2*00 > 0\n":                   1,
		"net 2\nz : 2*2 > 0\n":                    1,
		"net 2\nz : 2x0 > 0\n":                    1,
		"net 2\nz : 18446744073709551618*0 > 0\n": 1,

		// No net has more than api.MaxTrans transitions.
		"net 0\n" + long + "- : >\n":         api.MaxTrans + 1,
		"net 0\n" + long + "- : >\n- : >\n":  api.MaxTrans + 1,
		"net 0\n" + long + "- : >":           api.MaxTrans + 1,
		"net 0\n" + long + "\n":              api.MaxTrans + 1,
		"net 0\n" + long + "x\n":             api.MaxTrans + 1,
		"net 0\n" + long + "x":               api.MaxTrans + 1,
		"net 0\n" + long + long + long:       api.MaxTrans + 1,
		"net 0\n" + long[:len(long)-1]:       api.MaxTrans,
		"net 0\nx\n" + long:                  1,
		"net 0\n" + long[6:] + "x\n" + "y\n": api.MaxTrans,
	} {
		if n, line, err := Parse(s); !same(n, api.Net{}) || line != want || err != api.ErrForm {
			t.Errorf("%q: %v, %d, %d, not line %d", s, n, line, err, want)
		}
	}
}

// guess is a transition whose line this may be: if it is one's at all, it is this one's.
func guess(line string, places int) api.Tran {
	t := api.Tran{Pre: make([]int, places), Post: make([]int, places)}
	l := t.Pre
	for i, word := range strings.Fields(line) {
		if i == 0 && 'a' <= word[0] && word[0] <= 'z' {
			t.Label = int(word[0]) - 'a' + 1
		}
		if word == ">" {
			l = t.Post
		}
		weight, place, found := strings.Cut(word, "*")
		if !found {
			weight, place = "1", word
		}
		w, _ := strconv.Atoi(weight)
		if p, err := strconv.Atoi(place); err == nil && 0 <= p && p < places && 0 <= w && w <= api.MaxWeight {
			l[p] = w
		}
	}
	return t
}

// told is the words of O2, by Print: the net whose text s is, or the first line up to whose end no net's text begins so.
func told(s string) (api.Net, int, api.Errno) {
	lines := strings.SplitAfter(s, "\n")
	places, _ := strconv.Atoi(strings.TrimSpace(strings.TrimPrefix(lines[0], "net")))
	n := api.Net{Places: places}
	head, err := Print(n)
	if err != api.OK || lines[0] != head {
		return api.Net{}, 0, api.ErrForm
	}
	for at, line := range lines[1:] {
		if line == "" {
			break
		}
		n.Trans = append(n.Trans, guess(line, places))
		alone, _ := Print(api.Net{Places: places, Trans: n.Trans[at:]})
		if net.Wrong(n) != api.OK || alone != head+line {
			return api.Net{}, at + 1, api.ErrForm
		}
	}
	return n, 0, api.OK
}

// agree fails where Parse does not answer what the promise's words do.
func agree(t *testing.T, s string) api.Errno {
	t.Helper()
	n, line, err := Parse(s)
	if want, wantLine, wantErr := told(s); !same(n, want) || line != wantLine || err != wantErr {
		t.Fatalf("%q: %v, %d, %d, not %v, %d, %d", s, n, line, err, want, wantLine, wantErr)
	}
	return err
}

// strung are all texts of these bytes, of up to so many.
func strung(from string, most int, check func(s string)) {
	var more func(s string)
	more = func(s string) {
		check(s)
		if len(s) == most {
			return
		}
		for _, c := range []byte(from) {
			more(s + string([]byte{c}))
		}
	}
	more("")
}

// allBytes are the 256 of them.
func allBytes() string {
	var l []byte
	for c := range 256 {
		l = append(l, byte(c))
	}
	return string(l)
}

// All first lines that are short, and all others of two places that are short, against the promise's words.
func TestAllShortTexts(t *testing.T) {
	right, wrong := 0, 0
	check := func(s string) {
		if agree(t, s) == api.OK {
			right++
		} else {
			wrong++
		}
	}
	strung("net 01\n", 6, check)
	strung(allBytes(), 2, func(s string) { check("net " + s + "\n") })
	strung("0123456789 -+\n", 4, func(s string) { check("net " + s + "\n") })
	strung(" :>0a-\n", 6, func(s string) { check("net 1\n" + s) })
	strung(" >012*", 7, func(s string) { check("net 2\na :" + s + "\n") })
	strung(" 1290*", 6, func(s string) { check("net 2\na : 0" + s + " > 1\n- : >\n") })
	if right < 50 || wrong < 100000 {
		t.Errorf("%d right, %d wrong: too few to tell", right, wrong)
	}
}

// Texts of nets, with one byte more, one fewer, another one, and cut off, against the promise's words.
func TestOneByteAmiss(t *testing.T) {
	right, wrong, lines := 0, 0, map[int]int{}
	check := func(s string) {
		_, line, _ := Parse(s)
		lines[line]++
		if agree(t, s) == api.OK {
			right++
		} else {
			wrong++
		}
	}
	for _, s := range []string{
		"net 0\n- : >\nb : >\n",
		"net 1\na : 0 > 9*0\n- : 2*0 > 0\n",
		"net 2\nb : 0 1 > 1\na : 2*0 3*1 > 0\n- : > 1\nz : 4*1 > 0 9*1\n",
		"net 2\nm : 0 > 1\n- : >\n",
		"net 1\n" + strings.Repeat("c : >\n", api.MaxTrans-1),
		"net 1\n" + strings.Repeat("- : >\n", api.MaxTrans),
		"net 10\n",
		"net 16\n",
	} {
		check(s)
		for i := range len(s) {
			check(s[:i])
			check(s[i:])
			check(s[:i] + s[i+1:])
			check(s[:i] + s[i:i+1] + s[i:])
			for c := range 256 {
				check(s[:i] + string([]byte{byte(c)}) + s[i+1:])
				check(s[:i] + string([]byte{byte(c)}) + s[i:])
			}
		}
		for c := range 256 {
			check(s + string([]byte{byte(c)}))
		}
	}
	if right < 1000 || wrong < 10000 || len(lines) != api.MaxTrans+2 {
		t.Errorf("%d right, %d wrong, at %d lines: too few to tell", right, wrong, len(lines))
	}
}

// allLists are all that a transition of so many places can take or put.
func allLists(places int) [][]int {
	l := [][]int{nil}
	for range places {
		var longer [][]int
		for _, one := range l {
			for w := range api.MaxWeight + 1 {
				longer = append(longer, append(slices.Clone(one), w))
			}
		}
		l = longer
	}
	return l
}

// All nets of one transition and up to two places: what Print tells, Parse has back, and no two have one text.
func TestAllOfOneTransition(t *testing.T) {
	for places := range 3 {
		texts, all := map[string]bool{}, 0
		lists := allLists(places)
		for label := range api.MaxLabel + 1 {
			for _, pre := range lists {
				for _, post := range lists {
					n := one(label, pre, post)
					s := text(t, n)
					if got, line, err := Parse(s); !same(got, n) || line != 0 || err != api.OK {
						t.Fatalf("%q: %v, %d, %d, not %v", s, got, line, err, n)
					}
					texts[s] = true
					all++
				}
			}
		}
		if len(texts) != all {
			t.Errorf("%d places: %d texts of %d nets", places, len(texts), all)
		}
	}
}

// made are nets of any size, by a row of numbers that is always the same.
func made(many int, check func(n api.Net, next func(below int) int)) {
	x := uint64(1)
	next := func(below int) int {
		x = x*6364136223846793005 + 1442695040888963407
		return int(x>>33) % below
	}
	for range many {
		n := api.Net{Places: next(api.MaxPlaces + 1)}
		list := func() []int {
			l := make([]int, n.Places)
			for p := range l {
				if next(3) == 0 {
					l[p] = next(api.MaxWeight + 1)
				}
			}
			return l
		}
		for range next(api.MaxTrans + 1) {
			n.Trans = append(n.Trans, api.Tran{Label: next(api.MaxLabel + 1), Pre: list(), Post: list()})
		}
		check(n, next)
	}
}

// spelled is the words of O1, by means other than Print's.
func spelled(n api.Net) string {
	var out strings.Builder
	fmt.Fprintf(&out, "net %d\n", n.Places)
	for _, t := range n.Trans {
		words := []string{"-", ":"}
		if t.Label != 0 {
			words[0] = fmt.Sprintf("%c", 'a'-1+t.Label)
		}
		for i, l := range [][]int{t.Pre, t.Post} {
			if i == 1 {
				words = append(words, ">")
			}
			for p, w := range l {
				switch w {
				case 0:
				case 1:
					words = append(words, fmt.Sprint(p))
				default:
					words = append(words, fmt.Sprintf("%d*%d", w, p))
				}
			}
		}
		fmt.Fprintln(&out, strings.Join(words, " "))
	}
	return out.String()
}

// Greater nets: their texts, and back; and what is wrong in them is told at its line.
func TestManyNets(t *testing.T) {
	made(3000, func(n api.Net, next func(below int) int) {
		s := text(t, n)
		if want := spelled(n); s != want {
			t.Fatalf("%v: %q, not %q", n, s, want)
		}
		if got, line, err := Parse(s); !same(got, n) || line != 0 || err != api.OK {
			t.Fatalf("%q: %v, %d, %d, not %v", s, got, line, err, n)
		}
		lines := strings.SplitAfter(s, "\n")
		at := next(len(lines))
		lines[at] = strings.TrimSuffix(lines[at], "\n") + "x\n"
		wrong := strings.Join(lines, "")
		if got, line, err := Parse(wrong); !same(got, api.Net{}) || line != at || err != api.ErrForm {
			t.Fatalf("%q: %v, %d, %d, not line %d", wrong, got, line, err, at)
		}
	})
}

// With other bytes at some places, whatever is right is the text of what is answered.
func TestRightIsPrinted(t *testing.T) {
	right, wrong := 0, 0
	made(3000, func(n api.Net, next func(below int) int) {
		s := []byte(text(t, n))
		for range 20 {
			other := slices.Clone(s)
			for range 1 + next(2) {
				other[next(len(other))] = " :>*-abz\n0123456789"[next(19)]
			}
			got, line, err := Parse(string(other))
			if err == api.OK {
				right++
				if back, err := Print(got); back != string(other) || line != 0 || err != api.OK {
					t.Fatalf("%q: %v, %d, that prints %q, %d", other, got, line, back, err)
				}
				continue
			}
			wrong++
			if err != api.ErrForm || !same(got, api.Net{}) || line > api.MaxTrans+1 {
				t.Fatalf("%q: %v, %d, %d", other, got, line, err)
			}
			begin := strings.Join(strings.SplitAfter(string(other), "\n")[:line], "")
			if _, _, err := Parse(begin); line > 0 && err != api.OK {
				t.Fatalf("%q: line %d is not the first one that is wrong", other, line)
			}
		}
	})
	if right < 1000 || wrong < 1000 {
		t.Errorf("%d right, %d wrong: too few to tell", right, wrong)
	}
}

// Long texts are answered as well, and at once.
func TestLongTexts(t *testing.T) {
	const many = 1 << 20
	for s, want := range map[string]int{
		strings.Repeat("x", many):                                 0,
		strings.Repeat("\n", many):                                0,
		"net " + strings.Repeat("0", many) + "\n":                 0,
		"net " + strings.Repeat("1", many) + "\n":                 0,
		"net 2\n" + strings.Repeat("\n", many):                    1,
		"net 2\n" + strings.Repeat("a", many) + " : 0 > 1\n":      1,
		"net 2\na :" + strings.Repeat(" ", many) + "> 1\n":        1,
		"net 2\na :" + strings.Repeat(" 0", many) + " > 1\n":      1,
		"net 2\na :" + strings.Repeat(" >", many) + "\n":          1,
		"net 2\na : " + strings.Repeat("2*", many) + "0 > 1\n":    1,
		"net 2\na : 0 > " + strings.Repeat("9", many) + "*1\n":    1,
		"net 2\na : 0 > 2*" + strings.Repeat("0", many) + "1\n":   1,
		"net 2\na : 0 >" + strings.Repeat(" ", many):              1,
		"net 2\n" + strings.Repeat("a : 0 > 1\n", many/10):        api.MaxTrans + 1,
		"net 2\na : 0 > 1\n" + strings.Repeat("a : 0 > 1 ", many): 2,
	} {
		if n, line, err := Parse(s); !same(n, api.Net{}) || line != want || err != api.ErrForm {
			t.Errorf("%q and so on: %v, %d, %d, not line %d", s[:30], n, line, err, want)
		}
	}
}

// What is built of blocks is told, and is the same net when it is read.
func TestNetsOfBlocks(t *testing.T) {
	step := func(label int) api.Block { return api.Block{Kind: api.Step, Label: label} }
	kids := func(kind int, l ...api.Block) api.Block { return api.Block{Kind: kind, Kids: l} }
	for _, c := range []struct {
		b    api.Block
		want string
	}{
		{kids(api.Seq, step(1), step(2)), "net 3\na : 0 > 2\nb : 2 > 1\n"},
		{kids(api.Choice, step(3), step(4)), "net 2\nc : 0 > 1\nd : 0 > 1\n"},
		{kids(api.Both, step(1), step(26)), "net 6\n- : 0 > 2 4\na : 2 > 3\nz : 4 > 5\n- : 3 5 > 1\n"},
	} {
		n, err := grow.Grow(c.b)
		if err != api.OK {
			t.Fatalf("%v: %d", c.b, err)
		}
		if got := text(t, n); got != c.want {
			t.Errorf("%v: %q, not %q", c.b, got, c.want)
		}
		if got, line, err := Parse(c.want); !same(got, n) || line != 0 || err != api.OK {
			t.Errorf("%q: %v, %d, %d", c.want, got, line, err)
		}
	}
}

// Behind the end of a list there may be spare room: it is neither looked at nor changed.
func TestSpareRoom(t *testing.T) {
	pre, post := []int{1, 0, 7, 99}, []int{0, 2, -1, -1}
	room := []api.Tran{{Label: 1, Pre: pre[:2], Post: post[:2]}, {Label: 99}}
	if got := text(t, api.Net{Places: 2, Trans: room[:1]}); got != "net 2\na : 0 > 2*1\n" {
		t.Errorf("the room behind the end is looked at: %q", got)
	}
	if !slices.Equal(pre, []int{1, 0, 7, 99}) || !slices.Equal(post, []int{0, 2, -1, -1}) {
		t.Errorf("lists, or the room behind them, were changed: %v, %v", pre, post)
	}
	if !reflect.DeepEqual(room[1], api.Tran{Label: 99}) {
		t.Errorf("the room behind the transitions was changed: %v", room[1])
	}
}

// What is handed in stays as it is, what is answered is the caller's, and no two lists of it share anything.
func TestAnswersAreNew(t *testing.T) {
	n := largest()
	s := text(t, n)
	if !reflect.DeepEqual(n, largest()) {
		t.Errorf("the net was changed: %v", n)
	}
	got, _, err := Parse(s)
	if err != api.OK {
		t.Fatal(err)
	}
	for i := range got.Trans {
		for j, l := range [][]int{got.Trans[i].Pre, got.Trans[i].Post} {
			for p := range l {
				l[p] = 2*i + j
			}
			_ = append(l, 99)
		}
	}
	for i, tran := range got.Trans {
		for j, l := range [][]int{tran.Pre, tran.Post} {
			if !slices.Equal(l, slices.Repeat([]int{2*i + j}, api.MaxPlaces)) {
				t.Fatalf("lists of one answer share memory: %v", got)
			}
		}
	}
	if again, _, err := Parse(s); !same(again, n) || err != api.OK {
		t.Errorf("again: %v, %d", again, err)
	}
}

// One list may be handed in for several transitions.
func TestSharedLists(t *testing.T) {
	l := []int{1, 2}
	n := api.Net{Places: 2, Trans: slices.Repeat([]api.Tran{{Pre: l, Post: l}}, 2)}
	if got := text(t, n); got != "net 2\n- : 0 2*1 > 0 2*1\n- : 0 2*1 > 0 2*1\n" || !slices.Equal(l, []int{1, 2}) {
		t.Errorf("%q, %v", got, l)
	}
}

func ExamplePrint() {
	s, _ := Print(api.Net{Places: 3, Trans: []api.Tran{{Label: 2, Pre: []int{1, 0, 2}, Post: []int{0, 1, 0}}}})
	fmt.Print(s)
	// Output:
	// net 3
	// b : 0 2*2 > 1
}

func ExampleParse() {
	fmt.Println(Parse("net 3\nb : 0 2*2 > 1\n"))
	fmt.Println(Parse("net 3\nb : 0 2*2 > 1\n- : 3 > 0\n"))
	// Output:
	// {3 [{2 [1 0 2] [0 1 0]}]} 0 0
	// {0 []} 2 1
}
