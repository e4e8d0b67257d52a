package span

import (
	"math"
	"math/rand"
	"slices"
	"testing"

	"aquifer/api"
)

const top = api.MaxSector - 1

func at(start, n int) api.Span { return api.Span{Start: start, Len: n} }

// full is the set of all numbers.
func full() []api.Span { return []api.Span{at(0, api.MaxSector)} }

// everyOther is the set with the most spans.
func everyOther(first int) []api.Span {
	var l []api.Span
	for n := first; n < api.MaxSector; n += 2 {
		l = append(l, at(n, 1))
	}
	return l
}

// wrong are lists that are no sets, by what is wrong with them.
func wrong() map[string][]api.Span {
	return map[string][]api.Span{
		"zero span":         {{}},
		"Len 0":             {at(1, 0)},
		"Len 0 at the end":  {at(api.MaxSector, 0)},
		"Len below 0":       {at(5, -1)},
		"least Len":         {at(5, math.MinInt)},
		"Start below 0":     {at(-1, 2)},
		"all below 0":       {at(-3, 2)},
		"least Start":       {at(math.MinInt, 1)},
		"least, greatest":   {at(math.MinInt, math.MaxInt)},
		"both least":        {at(math.MinInt, math.MinInt)},
		"one too high":      {at(top, 2)},
		"above all":         {at(api.MaxSector, 1)},
		"one too long":      {at(0, api.MaxSector+1)},
		"greatest Len":      {at(0, math.MaxInt)},
		"end goes round":    {at(1, math.MaxInt)},
		"greatest Start":    {at(math.MaxInt, 1)},
		"both greatest":     {at(math.MaxInt, math.MaxInt)},
		"touch":             {at(1, 2), at(3, 1)},
		"meet":              {at(1, 3), at(3, 1)},
		"within":            {at(1, 9), at(3, 1)},
		"twice":             {at(4, 1), at(4, 1)},
		"fall":              {at(5, 1), at(1, 1)},
		"wrong second":      {at(1, 1), at(5, 0)},
		"wrong last":        {at(1, 1), at(5, 2), at(4095, 2)},
		"wrong first":       {at(0, 0), at(5, 2)},
		"goes round to low": {at(3000, math.MaxInt), at(10, 1)},
	}
}

// window is a set whose members are a number's bits, laid so that they begin
// at first.
func window(bits, first int) []int {
	var nums []int
	for i := range 8 {
		if bits>>i&1 == 1 {
			nums = append(nums, first+i)
		}
	}
	return nums
}

// naive puts spans together one number at a time.
func naive(in func(n int) bool) []api.Span {
	var l []api.Span
	for n := 0; n < api.MaxSector; n++ {
		switch {
		case !in(n):
		case n > 0 && in(n-1):
			l[len(l)-1].Len++
		default:
			l = append(l, at(n, 1))
		}
	}
	return l
}

// P1.1

func TestRightOfSets(t *testing.T) {
	for i, l := range [][]api.Span{
		nil,
		{},
		{at(0, 1)},
		{at(top, 1)},
		full(),
		{at(0, 1), at(2, 1)},
		{at(0, 10), at(11, 1), at(4000, 96)},
		everyOther(0),
		everyOther(1),
	} {
		if !Right(l) {
			t.Errorf("%d: a set, but not Right: %v", i, l)
		}
	}
}

func TestRightOfOthers(t *testing.T) {
	for what, l := range wrong() {
		if Right(l) {
			t.Errorf("%s: Right", what)
		}
	}
}

func TestOf(t *testing.T) {
	for i, c := range []struct {
		nums []int
		want []api.Span
	}{
		{nil, nil},
		{[]int{}, nil},
		{[]int{5, 3, 4, 9}, []api.Span{at(3, 3), at(9, 1)}},
		{[]int{0}, []api.Span{at(0, 1)}},
		{[]int{top}, []api.Span{at(top, 1)}},
		{[]int{7, 7, 7}, []api.Span{at(7, 1)}},
		{[]int{3, 1, 2, 1, 3}, []api.Span{at(1, 3)}},
		{[]int{1, 3}, []api.Span{at(1, 1), at(3, 1)}},
		{[]int{-1, api.MaxSector, math.MinInt, math.MaxInt}, nil},
		{[]int{-1, 0, api.MaxSector, top, math.MinInt, math.MaxInt}, []api.Span{at(0, 1), at(top, 1)}},
	} {
		if got := Of(c.nums...); !slices.Equal(got, c.want) {
			t.Errorf("%d: %v", i, got)
		}
	}
	if got := Of(); len(got) != 0 {
		t.Error(got)
	}
}

func TestOfAllNumbers(t *testing.T) {
	var nums []int
	for n := api.MaxSector + 10; n >= -10; n-- {
		nums = append(nums, n, n)
	}
	if got := Of(nums...); !slices.Equal(got, full()) {
		t.Error(got)
	}
}

// TestOfWindows takes all sets of eight numbers, at both ends and in between.
func TestOfWindows(t *testing.T) {
	for _, first := range []int{0, 60, api.MaxSector - 8} {
		for bits := range 256 {
			nums := window(bits, first)
			want := naive(func(n int) bool { return slices.Contains(nums, n) })
			slices.Reverse(nums)
			if got := Of(nums...); !slices.Equal(got, want) || !Right(got) {
				t.Fatalf("%v: %v", nums, got)
			}
		}
	}
}

func TestHas(t *testing.T) {
	for i, c := range []struct {
		l        []api.Span
		has, not []int
	}{
		{nil, nil, []int{math.MinInt, -1, 0, 1, top, api.MaxSector, math.MaxInt}},
		{full(), []int{0, 1, 2048, top}, []int{math.MinInt, -1, api.MaxSector, math.MaxInt}},
		{[]api.Span{at(0, 1)}, []int{0}, []int{-1, 1}},
		{[]api.Span{at(top, 1)}, []int{top}, []int{0, top - 1, api.MaxSector}},
		{[]api.Span{at(2, 2), at(5, 1), at(9, 3)}, []int{2, 3, 5, 9, 10, 11}, []int{0, 1, 4, 6, 7, 8, 12, -2, -9}},
	} {
		for _, n := range c.has {
			if !Has(c.l, n) {
				t.Errorf("%d: hasn't %d", i, n)
			}
		}
		for _, n := range c.not {
			if Has(c.l, n) {
				t.Errorf("%d: has %d", i, n)
			}
		}
	}
}

func TestHasEachNumber(t *testing.T) {
	l := everyOther(1)
	for n := -3; n < api.MaxSector+3; n++ {
		want := n >= 0 && n < api.MaxSector && n%2 == 1
		if Has(l, n) != want {
			t.Fatal(n)
		}
	}
}

func TestCountAndList(t *testing.T) {
	var all []int
	for n := range api.MaxSector {
		all = append(all, n)
	}
	for i, c := range []struct {
		l    []api.Span
		want []int
	}{
		{nil, nil},
		{[]api.Span{}, nil},
		{[]api.Span{at(0, 1)}, []int{0}},
		{[]api.Span{at(top, 1)}, []int{top}},
		{[]api.Span{at(3, 3), at(9, 1)}, []int{3, 4, 5, 9}},
		{[]api.Span{at(0, 2), at(3, 1), at(4094, 2)}, []int{0, 1, 3, 4094, 4095}},
		{full(), all},
	} {
		if got := Count(c.l); got != len(c.want) {
			t.Errorf("%d: Count %d", i, got)
		}
		if got := List(c.l); !slices.Equal(got, c.want) {
			t.Errorf("%d: List %v", i, got)
		}
	}
}

// TestNumbersEnds: they are gone through no further than wished.
func TestNumbersEnds(t *testing.T) {
	for stop := range 5 {
		var got []int
		for n := range numbers([]api.Span{at(3, 2), at(8, 3)}) {
			got = append(got, n)
			if len(got) == stop+1 {
				break
			}
		}
		if want := []int{3, 4, 8, 9, 10}[:stop+1]; !slices.Equal(got, want) {
			t.Error(stop, got)
		}
	}
}

// P1.2

func TestJoinCutBoth(t *testing.T) {
	for i, c := range []struct{ a, b, join, cut, both []api.Span }{
		{nil, nil, nil, nil, nil},
		{nil, full(), full(), nil, nil},
		{full(), nil, full(), full(), nil},
		{full(), full(), full(), nil, full()},
		{[]api.Span{at(1, 3)}, []api.Span{at(3, 3)}, []api.Span{at(1, 5)}, []api.Span{at(1, 2)}, []api.Span{at(3, 1)}},
		{[]api.Span{at(1, 3)}, []api.Span{at(4, 3)}, []api.Span{at(1, 6)}, []api.Span{at(1, 3)}, nil},
		{[]api.Span{at(4, 3)}, []api.Span{at(1, 3)}, []api.Span{at(1, 6)}, []api.Span{at(4, 3)}, nil},
		{[]api.Span{at(1, 9)}, []api.Span{at(4, 3)}, []api.Span{at(1, 9)}, []api.Span{at(1, 3), at(7, 3)}, []api.Span{at(4, 3)}},
		{[]api.Span{at(4, 3)}, []api.Span{at(1, 9)}, []api.Span{at(1, 9)}, nil, []api.Span{at(4, 3)}},
		{[]api.Span{at(1, 1), at(3, 1)}, []api.Span{at(2, 1)}, []api.Span{at(1, 3)}, []api.Span{at(1, 1), at(3, 1)}, nil},
		{[]api.Span{at(0, 1), at(top, 1)}, []api.Span{at(top, 1)}, []api.Span{at(0, 1), at(top, 1)}, []api.Span{at(0, 1)}, []api.Span{at(top, 1)}},
		{everyOther(0), everyOther(1), full(), everyOther(0), nil},
		{full(), everyOther(1), full(), everyOther(0), everyOther(1)},
	} {
		if got := Join(c.a, c.b); !slices.Equal(got, c.join) {
			t.Errorf("%d: Join %v", i, got)
		}
		if got := Cut(c.a, c.b); !slices.Equal(got, c.cut) {
			t.Errorf("%d: Cut %v", i, got)
		}
		if got := Both(c.a, c.b); !slices.Equal(got, c.both) {
			t.Errorf("%d: Both %v", i, got)
		}
	}
}

// holdAgainst holds the three calls against sets kept as arrays of bools.
func holdAgainst(t *testing.T, a, b []api.Span, inA, inB func(n int) bool) {
	t.Helper()
	for what, c := range map[string]struct {
		got  []api.Span
		want func(n int) bool
	}{
		"Join": {Join(a, b), func(n int) bool { return inA(n) || inB(n) }},
		"Cut":  {Cut(a, b), func(n int) bool { return inA(n) && !inB(n) }},
		"Both": {Both(a, b), func(n int) bool { return inA(n) && inB(n) }},
	} {
		if want := naive(c.want); !slices.Equal(c.got, want) || !Right(c.got) {
			t.Fatalf("%s of %v and %v: %v, not %v", what, a, b, c.got, want)
		}
	}
}

// TestPairsOfWindows takes pairs of sets of eight numbers; the second may lie
// some numbers higher.
func TestPairsOfWindows(t *testing.T) {
	for _, first := range []int{0, api.MaxSector - 10} {
		for x := 0; x < 256; x += 3 {
			for y := 0; y < 256; y += 5 {
				a, b := window(x, first), window(y, first+(x+y)%3)
				inA := func(n int) bool { return slices.Contains(a, n) }
				inB := func(n int) bool { return slices.Contains(b, n) }
				holdAgainst(t, Of(a...), Of(b...), inA, inB)
			}
		}
	}
}

// TestManySpans takes sets with up to some thousand spans.
func TestManySpans(t *testing.T) {
	r := rand.New(rand.NewSource(1))
	for range 200 {
		thickA, thickB := r.Float64(), r.Float64()
		var a, b [api.MaxSector]bool
		var listA, listB []int
		for n := range api.MaxSector {
			if a[n] = r.Float64() < thickA; a[n] {
				listA = append(listA, n)
			}
			if b[n] = r.Float64() < thickB; b[n] {
				listB = append(listB, n)
			}
		}
		setA, setB := Of(listA...), Of(listB...)
		if !slices.Equal(List(setA), listA) || Count(setB) != len(listB) {
			t.Fatal("List or Count")
		}
		holdAgainst(t, setA, setB, func(n int) bool { return a[n] }, func(n int) bool { return b[n] })
	}
}

// P1.3

func TestFirst(t *testing.T) {
	some := []api.Span{at(2, 1), at(5, 3), at(10, 2), at(20, 6)}
	for i, c := range []struct {
		l    []api.Span
		many int
		want api.Span
		ok   bool
	}{
		{some, 1, at(2, 1), true},
		{some, 2, at(5, 2), true}, // not 10, that fits better
		{some, 3, at(5, 3), true},
		{some, 4, at(20, 4), true},
		{some, 6, at(20, 6), true},
		{some, 7, api.Span{}, false},
		{some, 12, api.Span{}, false}, // so many there are, but not in one span
		{some, math.MaxInt, api.Span{}, false},
		{some, 0, api.Span{}, false},
		{some, -1, api.Span{}, false},
		{some, math.MinInt, api.Span{}, false},
		{nil, 1, api.Span{}, false},
		{nil, 0, api.Span{}, false},
		{full(), api.MaxSector, at(0, api.MaxSector), true},
		{full(), api.MaxSector + 1, api.Span{}, false},
		{[]api.Span{at(top, 1)}, 1, at(top, 1), true},
		{Of(5, 3, 4, 9), 2, at(3, 2), true},
	} {
		if got, ok := First(c.l, c.many); got != c.want || ok != c.ok {
			t.Errorf("%d: First of %d: %v %v", i, c.many, got, ok)
		}
	}
}

// P1, P2 and the rules that hold everywhere

// TestOthersEnd: of lists that are no sets each call ends and doesn't panic.
func TestOthersEnd(t *testing.T) {
	nums := []int{math.MinInt, -1, 0, 1, 5, top, api.MaxSector, math.MaxInt}
	lists := []([]api.Span){nil, full(), {at(1, 2), at(5, 1)}}
	for _, l := range wrong() {
		lists = append(lists, l)
	}
	for _, a := range lists {
		Count(a)
		List(a)
		for _, n := range nums {
			Has(a, n)
			First(a, n)
		}
		for _, b := range lists {
			Join(a, b)
			Cut(a, b)
			Both(a, b)
		}
	}
}

// TestArgumentsStay: what is handed in isn't changed, spare room included.
func TestArgumentsStay(t *testing.T) {
	roomA := []api.Span{at(1, 3), at(8, 1), at(50, 50), at(60, 60)}
	roomB := []api.Span{at(4, 2), at(9, 9), at(70, 70)}
	oldA, oldB := slices.Clone(roomA), slices.Clone(roomB)
	a, b := roomA[:2], roomB[:2]
	Right(a)
	Has(a, 8)
	Count(a)
	List(a)
	First(a, 1)
	Join(a, b)
	Join(b, a)
	Cut(a, b)
	Both(a, b)
	if !slices.Equal(roomA, oldA) || !slices.Equal(roomB, oldB) {
		t.Error(roomA, roomB)
	}
	nums := []int{5, 3, 3, -1, 9, 7, 8}
	Of(nums[:4]...)
	if !slices.Equal(nums, []int{5, 3, 3, -1, 9, 7, 8}) {
		t.Error(nums)
	}
}

// TestAnswersAreNew: no answer shares memory with an argument, spare room too.
func TestAnswersAreNew(t *testing.T) {
	for what, call := range map[string]func(a, b []api.Span) []api.Span{"Join": Join, "Cut": Cut, "Both": Both} {
		for _, c := range []struct{ a, b []api.Span }{
			{[]api.Span{at(1, 3), at(8, 1)}, nil},
			{nil, []api.Span{at(1, 3), at(8, 1)}},
			{[]api.Span{at(1, 3), at(8, 1)}, []api.Span{at(1, 3), at(8, 1)}},
			{[]api.Span{at(1, 3), at(8, 1)}, []api.Span{at(0, 20)}},
			{[]api.Span{at(1, 3)}, []api.Span{at(20, 1)}},
		} {
			a, b := slices.Clone(c.a), slices.Clone(c.b)
			got := call(a, b)
			want := slices.Clone(got)
			for i := range got[:cap(got)] {
				got[:cap(got)][i] = at(-7, -7)
			}
			if !slices.Equal(a, c.a) || !slices.Equal(b, c.b) {
				t.Errorf("%s: an argument is written over: %v %v", what, a, b)
			}
			if again := call(a, b); !slices.Equal(again, want) {
				t.Errorf("%s: first %v, then %v", what, want, again)
			}
		}
	}
}

// TestAnswersStay: what is handed in may be written over behind the call.
func TestAnswersStay(t *testing.T) {
	a, b, nums := []api.Span{at(1, 3)}, []api.Span{at(3, 3)}, []int{1, 2}
	set, list, join, cut, both := Of(nums...), List(a), Join(a, b), Cut(a, b), Both(a, b)
	a[0], b[0], nums[0] = at(90, 1), at(91, 1), 92
	if !slices.Equal(set, []api.Span{at(1, 2)}) || !slices.Equal(list, []int{1, 2, 3}) {
		t.Error(set, list)
	}
	if !slices.Equal(join, []api.Span{at(1, 5)}) || !slices.Equal(cut, []api.Span{at(1, 2)}) || !slices.Equal(both, []api.Span{at(3, 1)}) {
		t.Error(join, cut, both)
	}
}

// TestAgain: the same arguments have the same answers, whatever was called in
// between.
func TestAgain(t *testing.T) {
	a, b := everyOther(0), []api.Span{at(7, 100), at(3000, 5)}
	ask := func() []any {
		first, ok := First(b, 5)
		return []any{Right(a), Has(b, 106), Count(a), len(List(a)), len(Join(a, b)), len(Cut(a, b)), len(Both(a, b)), first, ok, len(Of(1, 2, 4))}
	}
	before := ask()
	for _, l := range wrong() {
		Join(l, a)
		Cut(b, l)
		List(l)
		First(l, 3)
	}
	if after := ask(); !slices.Equal(before, after) {
		t.Error(before, after)
	}
}
