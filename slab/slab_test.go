package slab

import (
	"math"
	"math/rand"
	"slices"
	"testing"

	"aquifer/api"
)

// odd are numbers of sectors or of slabs that are there in no map, some of
// which, times 64, go round to one that is.
func odd() []int {
	return []int{
		-1, -3, -4, -64, -65, math.MinInt, math.MinInt + 4, math.MinInt + 64, math.MaxInt, math.MaxInt - 63,
		1024, 1025, 1028, 4096, 1 << 16, 1<<16 + 4, 1 << 32, 1<<32 + 4, -1 << 32, 1 << 58, 1<<58 + 1, 1<<58 + 15, -1 << 58, 1<<58 - 1,
	}
}

// totals are how many sectors maps are made of.
func totals() []int {
	return []int{
		math.MinInt, -1 << 32, -1024, -1, 0, 1, 3, 4, 5, 6, 63, 64, 65, 67, 68, 100, 127, 128, 129, 150, 191, 192, 193,
		500, 960, 961, 1022, 1023, 1024, 1025, 2000, 4096, 1 << 16, 1 << 32, math.MaxInt,
	}
}

// plain is a map of another kind: lists of numbers, each of which rises.
type plain struct {
	free, taken, later []int
}

// fresh is a plain map of which nothing is taken.
func fresh(total int) *plain {
	p := &plain{}
	for i := 4; i < 1024 && i < total; i++ {
		p.free = append(p.free, i)
	}
	return p
}

// move brings a number from one list to another, if it is there.
func move(i int, from, to *[]int) api.Errno {
	at, ok := slices.BinarySearch(*from, i)
	if !ok {
		return 72
	}
	*from = slices.Delete(*from, at, at+1)
	at, _ = slices.BinarySearch(*to, i)
	*to = slices.Insert(*to, at, i)
	return 0
}

func (p *plain) take(i int) api.Errno { return move(i, &p.free, &p.taken) }
func (p *plain) drop(i int) api.Errno { return move(i, &p.taken, &p.free) }
func (p *plain) wait(i int) api.Errno { return move(i, &p.taken, &p.later) }

func (p *plain) commit() {
	p.free = slices.Concat(p.free, p.later)
	slices.Sort(p.free)
	p.later = nil
}

// rooms: how many of each slab are free.
func (p *plain) rooms() [16]int {
	var out [16]int
	for _, i := range p.free {
		out[i/64]++
	}
	return out
}

// alloc takes the number that stands first by how many are free in its slab,
// the most first, and then by itself.
func (p *plain) alloc() (int, api.Errno) {
	if len(p.free) == 0 {
		return 0, 71
	}
	rooms := p.rooms()
	i := slices.MinFunc(p.free, func(i, j int) int {
		if rooms[i/64] != rooms[j/64] {
			return rooms[j/64] - rooms[i/64]
		}
		return i - j
	})
	return i, p.take(i)
}

// runs: rising numbers as spans.
func runs(nums []int) []api.Span {
	var out []api.Span
	for _, n := range nums {
		if last := len(out) - 1; last >= 0 && out[last].Start+out[last].Len == n {
			out[last].Len++
		} else {
			out = append(out, api.Span{Start: n, Len: 1})
		}
	}
	return out
}

// alike holds all that a map tells against a plain one.
func alike(t *testing.T, m *Map, p *plain) {
	t.Helper()
	if m.Count() != len(p.free) {
		t.Fatalf("Count: %d, not %d", m.Count(), len(p.free))
	}
	for i, many := range p.rooms() {
		if m.Room(i) != many {
			t.Fatalf("Room(%d): %d, not %d", i, m.Room(i), many)
		}
	}
	if !slices.Equal(m.Taken(), runs(p.taken)) {
		t.Fatalf("Taken: %v, not %v", m.Taken(), runs(p.taken))
	}
	if !slices.Equal(m.Waiting(), runs(p.later)) {
		t.Fatalf("Waiting: %v, not %v", m.Waiting(), runs(p.later))
	}
}

// answers holds an error against the one that is wanted.
func answers(t *testing.T, what string, i int, got, want api.Errno) {
	t.Helper()
	if got != want {
		t.Fatalf("%s(%d): %v, not %v", what, i, got, want)
	}
}

// allocs holds some Allocs against the numbers that are wanted.
func allocs(t *testing.T, m *Map, want ...int) {
	t.Helper()
	for _, n := range want {
		if i, e := m.Alloc(); i != n || e != 0 {
			t.Fatalf("Alloc: %d %v, not %d", i, e, n)
		}
	}
}

// full: what a map in which nothing is free answers.
func full(t *testing.T, m *Map) {
	t.Helper()
	for range 2 {
		if i, e := m.Alloc(); i != 0 || e != 71 {
			t.Fatalf("Alloc: %d %v", i, e)
		}
	}
	for _, n := range []int{1, 2, 64, math.MaxInt} {
		if l, e := m.Many(n); len(l) != 0 || e != 71 {
			t.Fatalf("Many(%d): %v %v", n, l, e)
		}
	}
	for _, n := range []int{0, -1, math.MinInt} {
		if l, e := m.Many(n); len(l) != 0 || e != 0 {
			t.Fatalf("Many(%d): %v %v", n, l, e)
		}
	}
	if m.Count() != 0 {
		t.Fatalf("%d are free", m.Count())
	}
}

// twins: a map and a plain one with the same past: of each kind some.
func twins(total int, seed int64) (*Map, *plain) {
	m, p := New(total), fresh(total)
	r := rand.New(rand.NewSource(seed))
	for _, i := range slices.Clone(p.free) {
		switch r.Intn(3) {
		case 1:
			m.Take(i)
			p.take(i)
		case 2:
			m.Take(i)
			p.take(i)
			m.Later(i)
			p.wait(i)
		}
	}
	return m, p
}

// P7.1

func TestNew(t *testing.T) {
	for _, total := range totals() {
		m := New(total)
		alike(t, m, fresh(total))
		if len(m.Taken()) != 0 || len(m.Waiting()) != 0 {
			t.Errorf("%d: %v, %v", total, m.Taken(), m.Waiting())
		}
		for i := -2; i < 1100; i++ {
			want := api.Errno(72)
			if i >= 4 && i < total && i < 1024 {
				want = 0
			}
			answers(t, "Take", i, m.Take(i), want)
		}
		full(t, m)
	}
}

// TestCount has the numbers written out.
func TestCount(t *testing.T) {
	for _, c := range []struct{ total, count, first, last int }{
		{-1, 0, 0, 0}, {0, 0, 0, 0}, {4, 0, 0, 0}, {5, 1, 1, 0}, {64, 60, 60, 0}, {65, 61, 60, 0},
		{128, 124, 60, 0}, {960, 956, 60, 0}, {961, 957, 60, 1}, {1023, 1019, 60, 63}, {1024, 1020, 60, 64},
		{1025, 1020, 60, 64}, {math.MaxInt, 1020, 60, 64}, {math.MinInt, 0, 0, 0},
	} {
		m := New(c.total)
		if m.Count() != c.count || m.Room(0) != c.first || m.Room(15) != c.last {
			t.Errorf("%d: %d, %d, %d", c.total, m.Count(), m.Room(0), m.Room(15))
		}
	}
}

// TestRoomOfNone: a slab that isn't there has none, nor one behind the total.
func TestRoomOfNone(t *testing.T) {
	m := New(1024)
	for _, slab := range append(odd(), 16, 17, 63, 64) {
		if m.Room(slab) != 0 {
			t.Errorf("Room(%d): %d", slab, m.Room(slab))
		}
	}
	m = New(128)
	for _, slab := range append(odd(), 2, 3, 15, 16) {
		if m.Room(slab) != 0 {
			t.Errorf("Room(%d): %d", slab, m.Room(slab))
		}
	}
}

// TestRoom: free ones alone count, each in its own slab.
func TestRoom(t *testing.T) {
	m, p := New(200), fresh(200)
	for _, i := range []int{4, 63, 64, 100, 127, 128, 199} {
		m.Take(i)
		p.take(i)
		alike(t, m, p)
	}
	if m.Room(0) != 58 || m.Room(1) != 61 || m.Room(2) != 63 || m.Room(3) != 7 || m.Count() != 189 {
		t.Error(m.Room(0), m.Room(1), m.Room(2), m.Room(3), m.Count())
	}
	m.Later(64)
	m.Free(100)
	if m.Room(1) != 62 || m.Count() != 190 {
		t.Error(m.Room(1), m.Count())
	}
}

// TestTakenAndWaiting: they are sets: over a slab's end, too, and at both ends.
func TestTakenAndWaiting(t *testing.T) {
	m := New(1024)
	for _, i := range []int{1023, 65, 4, 64, 5, 62, 63, 7, 700} {
		m.Take(i)
	}
	want := []api.Span{{Start: 4, Len: 2}, {Start: 7, Len: 1}, {Start: 62, Len: 4}, {Start: 700, Len: 1}, {Start: 1023, Len: 1}}
	if !slices.Equal(m.Taken(), want) || len(m.Waiting()) != 0 {
		t.Error(m.Taken(), m.Waiting())
	}
	for _, i := range []int{64, 1023, 63, 4} {
		m.Later(i)
	}
	want = []api.Span{{Start: 5, Len: 1}, {Start: 7, Len: 1}, {Start: 62, Len: 1}, {Start: 65, Len: 1}, {Start: 700, Len: 1}}
	if !slices.Equal(m.Taken(), want) {
		t.Error(m.Taken())
	}
	want = []api.Span{{Start: 4, Len: 1}, {Start: 63, Len: 2}, {Start: 1023, Len: 1}}
	if !slices.Equal(m.Waiting(), want) {
		t.Error(m.Waiting())
	}
	m = New(1024)
	m.Many(1020)
	if !slices.Equal(m.Taken(), []api.Span{{Start: 4, Len: 1020}}) {
		t.Error(m.Taken())
	}
	for i := 4; i < 1024; i += 2 {
		m.Later(i)
	}
	if len(m.Taken()) != 510 || len(m.Waiting()) != 510 {
		t.Error(m.Taken(), m.Waiting())
	}
}

// TestCopy: it is alike, and what becomes of the one is nothing to the other.
func TestCopy(t *testing.T) {
	for i, total := range totals() {
		m, p := twins(total, int64(i))
		c := m.Copy()
		alike(t, c, p)
		a, b := m.Copy(), m.Copy()
		a.Commit()
		a.Many(a.Count())
		for i := range 1024 {
			b.Free(i)
		}
		alike(t, m, p)
		alike(t, c, p)
		l, _ := m.Many(m.Count())
		again, _ := c.Many(c.Count())
		if !slices.Equal(l, again) {
			t.Fatalf("%d: %v, not %v", total, again, l)
		}
	}
}

// TestCopyApart: both go their own ways, the copy of a copy, too.
func TestCopyApart(t *testing.T) {
	m := New(128)
	m.Take(9)
	c := m.Copy()
	d := c.Copy()
	allocs(t, m, 64, 65)
	answers(t, "Later", 9, c.Later(9), 0)
	answers(t, "Free", 9, d.Free(9), 0)
	answers(t, "Free", 9, m.Free(9), 0)
	if c.Commit(); c.Count() != 124 || d.Count() != 124 || m.Count() != 122 {
		t.Error(c.Count(), d.Count(), m.Count())
	}
	allocs(t, c, 64)
	allocs(t, d, 64)
	allocs(t, m, 66)
}

// P7.2

// TestExample is the chapter's.
func TestExample(t *testing.T) {
	m := New(128)
	allocs(t, m, 64)
	if l, e := m.Many(4); !slices.Equal(l, []int{65, 66, 67, 4}) || e != 0 {
		t.Error(l, e)
	}
	allocs(t, m, 68, 5, 69)
}

// TestAllocAll: in which order they come, to the last one, and then none.
func TestAllocAll(t *testing.T) {
	for _, total := range totals() {
		m, p := New(total), fresh(total)
		for len(p.free) > 0 {
			want, _ := p.alloc()
			allocs(t, m, want)
			if len(p.free)%50 == 0 {
				alike(t, m, p)
			}
		}
		full(t, m)
		alike(t, m, p)
	}
}

// TestAllocOfSlabs: the one with the most is the one, the first one of several.
func TestAllocOfSlabs(t *testing.T) {
	m := New(256)
	allocs(t, m, 64, 128, 192, 65) // one each of those with 64, then the first again
	for i := 4; i < 256; i++ {
		m.Take(i)
	}
	full(t, m)
	for _, i := range []int{250, 200, 140, 139, 138, 10} {
		m.Free(i)
	}
	allocs(t, m, 138, 139, 200, 10, 140, 250)
	full(t, m)
}

// TestAllocOfLowest: within a slab what was freed last is nothing to it.
func TestAllocOfLowest(t *testing.T) {
	m := New(64)
	m.Many(60)
	for _, i := range []int{30, 63, 4, 31} {
		m.Free(i)
		allocs(t, m, i)
	}
	for _, i := range []int{30, 63, 4, 31, 5} {
		m.Free(i)
	}
	allocs(t, m, 4, 5, 30, 31, 63)
	full(t, m)
}

// TestAllocOfLater: what will be free isn't yet, nor does it make a slab roomy.
func TestAllocOfLater(t *testing.T) {
	m := New(128)
	for i := range 40 {
		m.Take(64 + i)
		m.Later(64 + i)
	}
	allocs(t, m, 4, 5)
	if _, e := m.Many(m.Count()); e != 0 {
		t.Error(e)
	}
	full(t, m)
	m.Commit()
	if m.Count() != 40 {
		t.Error(m.Count())
	}
	allocs(t, m, 64, 65)
}

// TestAllocOfSmallSlab: the last one may have fewer.
func TestAllocOfSmallSlab(t *testing.T) {
	allocs(t, New(5), 4)
	allocs(t, New(66), 4, 5, 6)
	allocs(t, New(124), 4, 64, 5, 65)
	allocs(t, New(125), 64, 4, 65, 5)
	allocs(t, New(123), 4, 5, 64, 6)
}

// TestMany: as so many Allocs, and no more than there are.
func TestMany(t *testing.T) {
	for i, total := range totals() {
		m, p := twins(total, int64(i))
		for _, n := range []int{len(p.free) + 1, len(p.free) + 2, 1025, 1 << 32, math.MaxInt} {
			if l, e := m.Many(n); len(l) != 0 || e != 71 {
				t.Fatalf("%d: Many(%d): %v %v", total, n, l, e)
			}
			alike(t, m, p)
		}
		for _, n := range []int{0, -1, -64, -1 << 32, math.MinInt} {
			if l, e := m.Many(n); len(l) != 0 || e != 0 {
				t.Fatalf("%d: Many(%d): %v %v", total, n, l, e)
			}
			alike(t, m, p)
		}
		for _, n := range []int{min(1, len(p.free)), len(p.free) / 3, 0} {
			many(t, m, p, n)
		}
		many(t, m, p, len(p.free))
		full(t, m)
	}
}

// many holds a Many that can be against a plain map's allocs.
func many(t *testing.T, m *Map, p *plain, n int) {
	t.Helper()
	var want []int
	for range n {
		i, _ := p.alloc()
		want = append(want, i)
	}
	if l, e := m.Many(n); !slices.Equal(l, want) || e != 0 {
		t.Fatalf("Many(%d): %v %v, not %v", n, l, e, want)
	}
	alike(t, m, p)
}

// TestManyOfLater: what will be free is none of those that are.
func TestManyOfLater(t *testing.T) {
	m := New(64)
	m.Many(60)
	for i := 4; i < 14; i++ {
		m.Later(i)
	}
	m.Free(20)
	if l, e := m.Many(2); len(l) != 0 || e != 71 || m.Count() != 1 {
		t.Error(l, e, m.Count())
	}
	m.Commit()
	if l, e := m.Many(11); !slices.Equal(l, []int{4, 5, 6, 7, 8, 9, 10, 11, 12, 13, 20}) || e != 0 {
		t.Error(l, e)
	}
}

// P7.3

// turned: a map whose sector 9 was made what it is to be.
func turned(what string) *Map {
	m := New(64)
	if what != "free" {
		m.Take(9)
	}
	if what == "later" {
		m.Later(9)
	}
	return m
}

// is: what a map's sector 9 is, as its calls tell it.
func is(m *Map) string {
	nine := []api.Span{{Start: 9, Len: 1}}
	switch {
	case m.Count() == 60 && len(m.Taken()) == 0 && len(m.Waiting()) == 0:
		return "free"
	case m.Count() == 59 && slices.Equal(m.Taken(), nine) && len(m.Waiting()) == 0:
		return "taken"
	case m.Count() == 59 && len(m.Taken()) == 0 && slices.Equal(m.Waiting(), nine):
		return "later"
	}
	return "none of them"
}

// TestTurns: from each, what each call answers, and what it is then.
func TestTurns(t *testing.T) {
	for _, c := range []struct {
		from, call string
		want       api.Errno
		to         string
	}{
		{"free", "Take", 0, "taken"}, {"free", "Free", 72, "free"}, {"free", "Later", 72, "free"}, {"free", "Commit", 0, "free"},
		{"taken", "Take", 72, "taken"}, {"taken", "Free", 0, "free"}, {"taken", "Later", 0, "later"}, {"taken", "Commit", 0, "taken"},
		{"later", "Take", 72, "later"}, {"later", "Free", 72, "later"}, {"later", "Later", 72, "later"}, {"later", "Commit", 0, "free"},
	} {
		m := turned(c.from)
		if is(m) != c.from {
			t.Fatalf("it is %s, not %s", is(m), c.from)
		}
		var e api.Errno
		switch c.call {
		case "Take":
			e = m.Take(9)
		case "Free":
			e = m.Free(9)
		case "Later":
			e = m.Later(9)
		case "Commit":
			m.Commit()
		}
		if e != c.want || is(m) != c.to {
			t.Errorf("%s, %s: %v, %s", c.from, c.call, e, is(m))
		}
	}
}

// TestTurnsOfNone: a sector of the ring, or that isn't there, is nothing, and
// becomes nothing.
func TestTurnsOfNone(t *testing.T) {
	for i, total := range totals() {
		m, p := twins(total, int64(i))
		nums := append(odd(), 0, 1, 2, 3)
		if total < 1024 {
			nums = append(nums, max(total, 4), max(total, 4)+1, 1023)
		}
		for range 2 {
			for _, i := range nums {
				answers(t, "Take", i, m.Take(i), 72)
				answers(t, "Free", i, m.Free(i), 72)
				answers(t, "Later", i, m.Later(i), 72)
			}
			alike(t, m, p)
			m.Commit()
			p.commit()
			alike(t, m, p)
		}
	}
}

// TestTurnsOfEach: each sector that is there goes all ways.
func TestTurnsOfEach(t *testing.T) {
	for _, total := range []int{5, 64, 65, 129, 1023, 1024} {
		m, p := New(total), fresh(total)
		for i := 4; i < total; i++ {
			answers(t, "Take", i, m.Take(i), 0)
			answers(t, "Free", i, m.Free(i), 0)
			answers(t, "Take", i, m.Take(i), 0)
			answers(t, "Take", i, m.Take(i), 72)
			answers(t, "Later", i, m.Later(i), 0)
			answers(t, "Later", i, m.Later(i), 72)
			p.take(i)
			p.wait(i)
		}
		alike(t, m, p)
		full(t, m)
		m.Commit()
		alike(t, m, fresh(total))
	}
}

// TestCommit: all that are later, those alone, and as often as it is wished.
func TestCommit(t *testing.T) {
	for i, total := range totals() {
		m, p := twins(total, int64(i+100))
		m.Commit()
		p.commit()
		alike(t, m, p)
		m.Commit()
		alike(t, m, p)
		for _, i := range slices.Clone(p.taken) {
			answers(t, "Later", i, m.Later(i), 0)
		}
		m.Commit()
		alike(t, m, fresh(total))
	}
}

// TestAnyCalls goes any ways, and asks a plain map what each is to answer.
func TestAnyCalls(t *testing.T) {
	r := rand.New(rand.NewSource(7))
	for _, total := range []int{3, 5, 20, 64, 70, 128, 150, 300, 1024} {
		m, p := New(total), fresh(total)
		var gone []*Map
		for step := range 4000 {
			i := r.Intn(total+8) - 4
			switch r.Intn(12) {
			case 0, 1:
				answers(t, "Take", i, m.Take(i), p.take(i))
			case 2, 3:
				answers(t, "Free", i, m.Free(i), p.drop(i))
			case 4, 5:
				answers(t, "Later", i, m.Later(i), p.wait(i))
			case 6, 7, 8, 9:
				want, e := p.alloc()
				if i, got := m.Alloc(); i != want || got != e {
					t.Fatalf("Alloc: %d %v, not %d %v", i, got, want, e)
				}
			case 10:
				many(t, m, p, r.Intn(min(len(p.free), 9)+1))
			case 11:
				if r.Intn(5) == 0 {
					m.Commit()
					p.commit()
				}
				gone = append(gone, m) // what goes on is a copy
				m = m.Copy()
			}
			if step%9 == 0 {
				alike(t, m, p)
			}
			if len(gone) > 3 {
				gone[0].Commit()
				gone[0].Many(gone[0].Count())
				gone = gone[1:]
			}
		}
	}
}

// P1, P2 and the rules that hold everywhere

// TestAllArguments: each call ends and none panics.
func TestAllArguments(t *testing.T) {
	for _, total := range append(odd(), totals()...) {
		m := New(total)
		for _, i := range append(odd(), totals()...) {
			m.Take(i)
			m.Room(i)
			m.Later(i)
			m.Free(i)
			m.Many(i)
			m.Alloc()
			m.Commit()
		}
		m.Count()
		m.Taken()
		m.Waiting()
		m.Copy()
	}
}

// TestAnswersAreNew: what was answered may be written over, spare room too.
func TestAnswersAreNew(t *testing.T) {
	m, p := twins(500, 9)
	for range 3 {
		many(t, m, p, 7)
		l, _ := m.Many(0)
		for _, l := range [][]api.Span{m.Taken(), m.Waiting(), m.Taken()} {
			l = l[:cap(l)]
			for i := range l {
				l[i] = api.Span{Start: 4, Len: 1}
			}
		}
		l = l[:cap(l)]
		for i := range l {
			l[i] = 4
		}
		alike(t, m, p)
	}
	a, _ := m.Many(5)
	b, _ := m.Many(5)
	want := slices.Clone(b)
	clear(a[:cap(a)])
	if !slices.Equal(b, want) {
		t.Error(b, want)
	}
	x, y := m.Taken(), m.Taken()
	clear(x[:cap(x)])
	if len(y) == 0 || y[0].Len == 0 {
		t.Error(y)
	}
}

// TestMapsApart: what the one has taken says nothing of another.
func TestMapsApart(t *testing.T) {
	a, b := New(128), New(64)
	allocs(t, a, 64)
	allocs(t, b, 4)
	a.Later(64)
	b.Commit()
	if a.Count() != 123 || b.Count() != 59 || len(a.Waiting()) != 1 {
		t.Error(a.Count(), b.Count(), a.Waiting())
	}
	alike(t, New(128), fresh(128))
}

// TestAskingChangesNothing: the same calls answer the same again.
func TestAskingChangesNothing(t *testing.T) {
	m, p := twins(700, 11)
	for range 3 {
		alike(t, m, p)
		m.Room(3)
		m.Copy()
		m.Taken()
		m.Waiting()
		m.Many(2000)
		m.Take(2)
	}
	again, _ := twins(700, 11)
	l, _ := m.Many(m.Count())
	if other, _ := again.Many(again.Count()); !slices.Equal(l, other) {
		t.Error(l, other)
	}
}
