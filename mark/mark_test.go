package mark

import (
	"fmt"
	"math"
	"slices"
	"testing"

	"tokenhall/api"
)

const most = api.MaxTokens

// wrong are marks that are not right, each for one number alone.
func wrong() [][]int {
	return [][]int{
		{-1}, {most + 1}, {math.MinInt}, {math.MaxInt},
		{0, 0, -1}, {0, 0, most + 1}, {-1, 3}, {most + 1, 3}, {1, -1, 1}, {1, most + 1, 1},
	}
}

// right are all marks of up to three places with 0, 1, 2 or MaxTokens at each.
func right() [][]int {
	all := [][]int{nil, {}}
	last := [][]int{{}}
	for range 3 {
		var next [][]int
		for _, m := range last {
			for _, x := range []int{0, 1, 2, most} {
				next = append(next, append(slices.Clone(m), x))
			}
		}
		all, last = append(all, next...), next
	}
	return all
}

// padded is m with noughts up to n places.
func padded(m []int, n int) []int {
	out := make([]int, n)
	copy(out, m)
	return out
}

func TestRight(t *testing.T) {
	for _, m := range right() {
		if !Right(m) {
			t.Errorf("%v is not right", m)
		}
	}
	for _, m := range append(wrong(), []int{most, most, most, most + 1}) {
		if Right(m) {
			t.Errorf("%v is right", m)
		}
	}
	if !Right(make([]int, 1000)) {
		t.Error("noughts at 1000 places are not right")
	}
}

func TestCoversAndSame(t *testing.T) {
	for _, c := range []struct {
		a, b   []int
		ab, ba bool
		what   string
	}{
		{nil, nil, true, true, "no places"},
		{nil, []int{}, true, true, "nil and empty"},
		{nil, []int{0, 0}, true, true, "noughts behind the end"},
		{[]int{1, 2}, []int{1, 2, 0, 0}, true, true, "noughts behind the end of more"},
		{[]int{1, 2}, []int{1, 2}, true, true, "the same places"},
		{[]int{1, 2}, []int{1, 1}, true, false, "one more"},
		{[]int{2, 1}, []int{1, 1}, true, false, "one more at the beginning"},
		{[]int{1, 2}, []int{2, 1}, false, false, "neither"},
		{[]int{1}, nil, true, false, "something, and nothing"},
		{[]int{0, 0, 1}, []int{0}, true, false, "more behind the end"},
		{[]int{5}, []int{5, 0, 1}, false, true, "fewer behind the end"},
		{[]int{5}, []int{4, 1}, false, false, "more, and fewer behind the end"},
		{[]int{most}, []int{most - 1}, true, false, "MaxTokens"},
		{[]int{-1}, nil, false, true, "below 0, and nothing"},
		{[]int{3, -1}, []int{3}, false, true, "below 0 behind the end"},
		{[]int{-1}, []int{-2}, true, false, "both below 0"},
		{[]int{-2}, []int{-2}, true, true, "both the same below 0"},
		{[]int{most + 2}, []int{most + 1}, true, false, "above MaxTokens"},
		{[]int{math.MaxInt}, []int{math.MinInt}, true, false, "the greatest and the least"},
	} {
		if got := Covers(c.a, c.b); got != c.ab {
			t.Errorf("%s: Covers(%v, %v) is %v", c.what, c.a, c.b, got)
		}
		if got := Covers(c.b, c.a); got != c.ba {
			t.Errorf("%s: Covers(%v, %v) is %v", c.what, c.b, c.a, got)
		}
		same := c.ab && c.ba
		if Same(c.a, c.b) != same || Same(c.b, c.a) != same {
			t.Errorf("%s: Same of %v and %v is not %v", c.what, c.a, c.b, same)
		}
	}
}

func TestPlusAndMinus(t *testing.T) {
	for _, c := range []struct {
		a, b     []int
		plus     []int
		plusErr  api.Errno
		minus    []int
		minusErr api.Errno
		what     string
	}{
		{nil, nil, nil, api.OK, nil, api.OK, "no places"},
		{nil, []int{}, nil, api.OK, nil, api.OK, "nil and empty"},
		{nil, []int{0, 0}, []int{0, 0}, api.OK, []int{0, 0}, api.OK, "noughts are places"},
		{[]int{0}, nil, []int{0}, api.OK, []int{0}, api.OK, "one nought"},
		{[]int{1, 2}, []int{0, 1, 4}, []int{1, 3, 4}, api.OK, nil, api.ErrNone, "the document's first example"},
		{[]int{1, 3, 4}, []int{1, 2}, []int{2, 5, 4}, api.OK, []int{0, 1, 4}, api.OK, "and back"},
		{[]int{3}, []int{1, 0, 0}, []int{4, 0, 0}, api.OK, []int{2, 0, 0}, api.OK, "as many places as the longer one"},
		{[]int{5, 0}, []int{5}, []int{10, 0}, api.OK, []int{0, 0}, api.OK, "nothing is left"},
		{[]int{most - 1}, []int{1}, []int{most}, api.OK, []int{most - 2}, api.OK, "just full"},
		{[]int{most}, []int{0}, []int{most}, api.OK, []int{most}, api.OK, "MaxTokens and 0"},
		{[]int{most}, []int{1}, nil, api.ErrFull, []int{most - 1}, api.OK, "one too many"},
		{[]int{most}, []int{most}, nil, api.ErrFull, []int{0}, api.OK, "MaxTokens twice"},
		{[]int{9, 0, most}, []int{1, 0, 1}, nil, api.ErrFull, []int{8, 0, most - 1}, api.OK, "one too many at the last place"},
		{[]int{0}, []int{1}, []int{1}, api.OK, nil, api.ErrNone, "one too few"},
		{[]int{9, 9}, []int{0, 0, 1}, []int{9, 9, 1}, api.OK, nil, api.ErrNone, "one too few behind the end"},
		{[]int{9, 0}, []int{0, most}, []int{9, most}, api.OK, nil, api.ErrNone, "too few at one place of two"},
		{[]int{1, most}, []int{2, 1}, nil, api.ErrFull, nil, api.ErrNone, "too many, and too few"},
	} {
		checkMark(t, "Plus, "+c.what, Plus, c.a, c.b, c.plus, c.plusErr)
		checkMark(t, "Minus, "+c.what, Minus, c.a, c.b, c.minus, c.minusErr)
	}
}

func checkMark(t *testing.T, what string, f func(a, b []int) ([]int, api.Errno), a, b, want []int, wantErr api.Errno) {
	t.Helper()
	got, err := f(a, b)
	if !slices.Equal(got, want) || err != wantErr {
		t.Errorf("%s: of %v and %v comes %v, %d, not %v, %d", what, a, b, got, err, want, wantErr)
	}
}

// What is not right is told ahead of what is too much or lacks, whichever of both it is.
func TestRangeGoesAhead(t *testing.T) {
	others := append(wrong(), nil, []int{0}, []int{most, most, most}, []int{0, 0, 0, 1})
	for _, w := range wrong() {
		for _, m := range others {
			checkMark(t, "Plus", Plus, w, m, nil, api.ErrRange)
			checkMark(t, "Plus", Plus, m, w, nil, api.ErrRange)
			checkMark(t, "Minus", Minus, w, m, nil, api.ErrRange)
			checkMark(t, "Minus", Minus, m, w, nil, api.ErrRange)
		}
	}
}

// All pairs of small marks against the promises' words, place by place.
func TestAllPairs(t *testing.T) {
	for _, a := range right() {
		for _, b := range right() {
			n := max(len(a), len(b))
			x, y := padded(a, n), padded(b, n)
			sum, rest := make([]int, n), make([]int, n)
			full, covers := false, true
			for p := range n {
				sum[p], rest[p] = x[p]+y[p], x[p]-y[p]
				full = full || sum[p] > most
				covers = covers && rest[p] >= 0
			}
			if Covers(a, b) != covers {
				t.Errorf("Covers(%v, %v) is not %v", a, b, covers)
			}
			if Same(a, b) != slices.Equal(x, y) {
				t.Errorf("Same(%v, %v) is not %v", a, b, slices.Equal(x, y))
			}
			plusErr, minusErr := api.OK, api.OK
			if full {
				sum, plusErr = nil, api.ErrFull
			}
			if !covers {
				rest, minusErr = nil, api.ErrNone
			}
			checkMark(t, "Plus", Plus, a, b, sum, plusErr)
			checkMark(t, "Minus", Minus, a, b, rest, minusErr)
		}
	}
}

// Behind the end of a list there may be spare room: it is neither looked at nor changed.
func TestSpareRoom(t *testing.T) {
	room := []int{1, 7, -7, most + 1}
	short := room[:1]
	if !Right(short) || !Same(short, []int{1}) || Covers(short, []int{1, 1}) {
		t.Error("the room behind the end counts")
	}
	for _, f := range []func(a, b []int) ([]int, api.Errno){Plus, Minus} {
		for _, b := range [][]int{nil, {1}, {1, 0, 0, 0}} {
			f(short, b)
			f(b, short)
		}
	}
	if !slices.Equal(room, []int{1, 7, -7, most + 1}) {
		t.Errorf("what was handed in, or the room behind it, became %v", room)
	}
}

// An answer shares nothing with what was handed in, not even where one of both is nothing.
func TestAnswersAreNew(t *testing.T) {
	for _, pair := range [][2][]int{{{3, 4}, nil}, {{3, 4}, {0, 0}}, {{3, 4}, {1}}, {{3, 4}, {3, 4}}} {
		a, b := slices.Clone(pair[0]), slices.Clone(pair[1])
		for _, f := range []func(a, b []int) ([]int, api.Errno){Plus, Minus} {
			got, _ := f(a, b)
			kept := slices.Clone(got)
			for p := range got {
				got[p] = 99
			}
			if !slices.Equal(a, pair[0]) || !slices.Equal(b, pair[1]) {
				t.Fatalf("an answer of %v and %v shares memory with them", pair[0], pair[1])
			}
			again, _ := f(a, b)
			if !slices.Equal(again, kept) {
				t.Fatalf("of %v and %v comes %v, and then %v", a, b, kept, again)
			}
		}
	}
	m := []int{2, 5}
	sum, _ := Plus(m, m)
	m[0] = 8
	if !slices.Equal(sum, []int{4, 10}) {
		t.Errorf("an answer changed with what was handed in: %v", sum)
	}
}

func ExamplePlus() {
	both, err := Plus([]int{1, 2}, []int{0, 1, 4})
	fmt.Println(both, err == api.OK)
	// Output: [1 3 4] true
}

func ExampleMinus() {
	_, err := Minus([]int{1, 2}, []int{0, 1, 4})
	fmt.Println(err == api.ErrNone)
	// Output: true
}
