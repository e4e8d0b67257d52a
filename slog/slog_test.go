package slog

import (
	"bytes"
	"encoding/binary"
	"math"
	"math/rand"
	"slices"
	"strconv"
	"testing"

	"aquifer/api"
	"aquifer/span"
)

const top = 4095 // the greatest number

func at(start, n int) api.Span { return api.Span{Start: start, Len: n} }

func take(start, n int) api.Move { return api.Move{Take: true, At: at(start, n)} }

func free(start, n int) api.Move { return api.Move{At: at(start, n)} }

// full is the set of all numbers.
func full() []api.Span { return []api.Span{at(0, 4096)} }

// everyOther is the set with the most spans.
func everyOther(first int) []api.Span {
	var out []api.Span
	for n := first; n < 4096; n += 2 {
		out = append(out, at(n, 1))
	}
	return out
}

// edges are the spans that just are right.
func edges() []api.Span {
	return []api.Span{at(0, 1), at(0, 4096), at(top, 1), at(top-1, 2), at(1, top), at(2048, 2048), at(255, 256), at(256, 255)}
}

// wrong are the spans that are not.
func wrong() []api.Span {
	return []api.Span{
		{}, at(5, 0), at(5, -1), at(5, math.MinInt), at(0, math.MinInt), at(0, 4097), at(1, 4096), at(top, 2), at(top, 0),
		at(4096, 1), at(4096, 0), at(4097, -1), at(-1, 1), at(-1, 2), at(-1, 4097), at(-5, 3), at(0, -4096),
		at(math.MinInt, 1), at(math.MinInt, math.MinInt), at(math.MinInt, math.MaxInt), at(math.MaxInt, 1), at(math.MaxInt, math.MaxInt),
		at(1, math.MaxInt), at(0, math.MaxInt), at(10, math.MaxInt-5), at(math.MaxInt, math.MinInt+20),
		at(1<<16, 1), at(5, 1<<16), at(5, 1<<16+1), at(1<<16+5, 1), at(1<<32, 1), at(1<<32+5, 1), at(5, 1<<32+1), at(-1<<32+5, 1), at(1<<62, 1),
	}
}

// noSets are lists that are no sets; what some of them leave out can be one.
func noSets() [][]api.Span {
	out := [][]api.Span{
		{at(1, 2), at(3, 1)},
		{at(1, 3), at(3, 1)},
		{at(1, 9), at(3, 1)},
		{at(5, 1), at(1, 1)},
		{at(5, 1), at(5, 1)},
		{at(1, 1), at(3, 1), at(9, 0)},
	}
	for _, s := range wrong() {
		out = append(out, []api.Span{s}, []api.Span{at(2, 1), s}, []api.Span{s, at(4000, 1)})
	}
	return out
}

// sets are some of all sizes.
func sets() [][]api.Span {
	out := [][]api.Span{
		nil, {}, full(), everyOther(0), everyOther(1),
		{at(1, 3)}, {at(3, 3)}, {at(0, 1), at(top, 1)}, {at(0, 2), at(3, 4), at(100, 50), at(4000, 96)},
	}
	for _, s := range edges() {
		out = append(out, []api.Span{s})
	}
	r := rand.New(rand.NewSource(5))
	for range 12 {
		out = append(out, anySet(r))
	}
	return out
}

// anySet is a set of stretches of any lengths.
func anySet(r *rand.Rand) []api.Span {
	var out []api.Span
	for from := r.Intn(9); from < 4096; {
		n := 1 + r.Intn(1+r.Intn(400))
		out = append(out, at(from, min(n, 4096-from)))
		from += n + 1 + r.Intn(1+r.Intn(400))
	}
	return out
}

// plain is a set of another kind: which numbers are in it.
type plain map[int]struct{}

func plainOf(set []api.Span) plain {
	p := plain{}
	for _, s := range set {
		for n := s.Start; n < s.Start+s.Len; n++ {
			p[n] = struct{}{}
		}
	}
	return p
}

// has: are all of a span's numbers in it, or none?
func (p plain) has(s api.Span, want bool) bool {
	for n := s.Start; n < s.Start+s.Len; n++ {
		if _, ok := p[n]; ok != want {
			return false
		}
	}
	return true
}

// turn does what a move says, asked or not.
func (p plain) turn(m api.Move) {
	for n := m.At.Start; n < m.At.Start+m.At.Len; n++ {
		if m.Take {
			p[n] = struct{}{}
		} else {
			delete(p, n)
		}
	}
}

// runs: the spans of the numbers that are in one and in no other.
func (p plain) runs(but plain) []api.Span {
	var nums []int
	for n := range p {
		if _, ok := but[n]; !ok {
			nums = append(nums, n)
		}
	}
	slices.Sort(nums)
	var out []api.Span
	for _, n := range nums {
		if last := len(out) - 1; last >= 0 && out[last].Start+out[last].Len == n {
			out[last].Len++
		} else {
			out = append(out, at(n, 1))
		}
	}
	return out
}

// replays holds a Replay that can be against what it is to answer.
func replays(t *testing.T, set []api.Span, moves []api.Move, want []api.Span) {
	t.Helper()
	if got, e := Replay(set, moves); e != 0 || !slices.Equal(got, want) {
		t.Fatalf("Replay(%v, %v): %v %v, not %v", set, moves, got, e, want)
	}
}

// refused: a Replay that can't be.
func refused(t *testing.T, set []api.Span, moves ...api.Move) {
	t.Helper()
	if got, e := Replay(set, moves); e != 81 || len(got) != 0 {
		t.Fatalf("Replay(%v, %v): %v %v", set, moves, got, e)
	}
}

// P8.1

func TestReplay(t *testing.T) {
	for _, c := range []struct {
		set   []api.Span
		moves []api.Move
		want  []api.Span
	}{
		{nil, nil, nil},
		{nil, []api.Move{}, nil},
		{[]api.Span{at(1, 3), at(9, 1)}, nil, []api.Span{at(1, 3), at(9, 1)}},
		{full(), nil, full()},
		{everyOther(1), nil, everyOther(1)},
		{nil, []api.Move{take(5, 1)}, []api.Span{at(5, 1)}},
		{nil, []api.Move{take(0, 4096)}, full()},
		{full(), []api.Move{free(0, 4096)}, nil},
		{full(), []api.Move{free(0, 1)}, []api.Span{at(1, top)}},
		{full(), []api.Move{free(top, 1)}, []api.Span{at(0, top)}},
		{full(), []api.Move{free(7, 2)}, []api.Span{at(0, 7), at(9, 4087)}},
		{[]api.Span{at(1, top)}, []api.Move{take(0, 1)}, full()},
		{[]api.Span{at(0, top)}, []api.Move{take(top, 1)}, full()},
		// What touches becomes one span, on either side and on both.
		{[]api.Span{at(5, 2)}, []api.Move{take(7, 1)}, []api.Span{at(5, 3)}},
		{[]api.Span{at(5, 2)}, []api.Move{take(4, 1)}, []api.Span{at(4, 3)}},
		{[]api.Span{at(5, 2), at(9, 1)}, []api.Move{take(7, 2)}, []api.Span{at(5, 5)}},
		{[]api.Span{at(5, 2)}, []api.Move{take(8, 1)}, []api.Span{at(5, 2), at(8, 1)}},
		{[]api.Span{at(5, 2)}, []api.Move{take(3, 1)}, []api.Span{at(3, 1), at(5, 2)}},
		// Of a span its ends and its middle.
		{[]api.Span{at(5, 3)}, []api.Move{free(5, 1)}, []api.Span{at(6, 2)}},
		{[]api.Span{at(5, 3)}, []api.Move{free(7, 1)}, []api.Span{at(5, 2)}},
		{[]api.Span{at(5, 3)}, []api.Move{free(6, 1)}, []api.Span{at(5, 1), at(7, 1)}},
		{[]api.Span{at(5, 3)}, []api.Move{free(5, 3)}, nil},
		// One behind the other: the same numbers more than once.
		{nil, []api.Move{take(5, 3), free(5, 3), take(4, 5), free(6, 1), take(6, 1)}, []api.Span{at(4, 5)}},
		{[]api.Span{at(3, 2)}, []api.Move{take(5, 2), free(4, 2)}, []api.Span{at(3, 1), at(6, 1)}},
		{[]api.Span{at(10, 5)}, []api.Move{take(15, 2), free(11, 3), take(12, 1)}, []api.Span{at(10, 1), at(12, 1), at(14, 3)}},
	} {
		replays(t, c.set, c.moves, c.want)
	}
}

// TestReplayOfNoSet: without moves, and with such as can be.
func TestReplayOfNoSet(t *testing.T) {
	for _, l := range noSets() {
		refused(t, l)
		refused(t, l, take(2000, 1))
		refused(t, l, take(2000, 1), free(2000, 1))
	}
}

// TestReplayOfWrong: a move that isn't right, wherever it stands.
func TestReplayOfWrong(t *testing.T) {
	for _, s := range wrong() {
		for _, set := range [][]api.Span{nil, full(), {at(5, 1)}, everyOther(0)} {
			refused(t, set, api.Move{Take: true, At: s})
			refused(t, set, api.Move{At: s})
		}
		refused(t, nil, take(7, 1), api.Move{Take: true, At: s})
		refused(t, full(), free(7, 1), api.Move{At: s})
		refused(t, nil, api.Move{Take: true, At: s}, take(7, 1))
		refused(t, full(), api.Move{At: s}, free(7, 1))
	}
}

// TestReplayOfTaken: one number alone that is in it, or isn't, is too much.
func TestReplayOfTaken(t *testing.T) {
	set := []api.Span{at(5, 3), at(9, 1), at(20, 5)}
	for _, m := range []api.Move{
		take(5, 1), take(6, 1), take(7, 1), take(4, 2), take(7, 2), take(8, 2), take(4, 5), take(5, 3), take(9, 1),
		take(8, 3), take(0, 4096), take(24, 1), take(24, 4072), take(0, 6), take(20, 5), take(19, 7),
		free(4, 1), free(8, 1), free(4, 2), free(7, 2), free(8, 2), free(4, 5), free(5, 4), free(5, 5), free(8, 3),
		free(0, 4096), free(25, 1), free(24, 2), free(0, 1), free(top, 1), free(19, 7), free(19, 6), free(20, 6),
	} {
		refused(t, set, m)
	}
	refused(t, nil, free(0, 1))
	refused(t, nil, free(0, 4096))
	refused(t, full(), take(0, 1))
	refused(t, full(), take(top, 1))
}

// TestReplayInOrder: what was right in one order isn't in another.
func TestReplayInOrder(t *testing.T) {
	replays(t, nil, []api.Move{take(5, 1), free(5, 1)}, nil)
	refused(t, nil, free(5, 1), take(5, 1))
	refused(t, nil, take(5, 1), take(5, 1))
	refused(t, nil, take(5, 1), free(5, 1), free(5, 1))
	refused(t, nil, take(5, 3), take(7, 1), free(7, 1))
	replays(t, []api.Span{at(5, 1)}, []api.Move{free(5, 1), take(5, 1)}, []api.Span{at(5, 1)})
	refused(t, []api.Span{at(5, 1)}, take(5, 1), free(5, 1))
	refused(t, []api.Span{at(5, 1)}, free(5, 1), free(5, 1), take(5, 1))
	refused(t, []api.Span{at(5, 1)}, free(5, 1), take(4, 3), take(6, 1))
}

// TestReplayOfMany: more moves than have bytes are none too many.
func TestReplayOfMany(t *testing.T) {
	var moves []api.Move
	for n := range 3000 {
		moves = append(moves, take(n, 4096-n), free(n, 4096-n), take(n, 1))
	}
	replays(t, nil, moves, []api.Span{at(0, 3000)})
	refused(t, nil, append(moves, take(2999, 1))...)
	replays(t, nil, append(moves, free(2999, 1)), []api.Span{at(0, 2999)})
}

// TestReplayOfAny goes any ways, and asks a plain set what is to be answered.
func TestReplayOfAny(t *testing.T) {
	r := rand.New(rand.NewSource(1))
	for range 60 {
		set := anySet(r)
		p := plainOf(set)
		var moves []api.Move
		for range 150 {
			from := r.Intn(4096)
			m := api.Move{Take: r.Intn(2) == 0, At: at(from, 1+r.Intn(min(1+r.Intn(30), 4096-from)))}
			if !p.has(m.At, !m.Take) {
				refused(t, set, append(slices.Clone(moves), m)...)
				continue
			}
			p.turn(m)
			moves = append(moves, m)
			replays(t, set, moves, p.runs(nil))
		}
	}
}

// P8.2

// TestExample is the chapter's.
func TestExample(t *testing.T) {
	got := Diff([]api.Span{at(1, 3)}, []api.Span{at(3, 3)})
	if !slices.Equal(got, []api.Move{free(1, 2), take(4, 2)}) {
		t.Error(got)
	}
}

func TestDiff(t *testing.T) {
	for _, c := range []struct {
		a, b []api.Span
		want []api.Move
	}{
		{nil, nil, nil},
		{full(), full(), nil},
		{everyOther(1), everyOther(1), nil},
		{nil, full(), []api.Move{take(0, 4096)}},
		{full(), nil, []api.Move{free(0, 4096)}},
		{[]api.Span{at(5, 1)}, []api.Span{at(2, 1)}, []api.Move{free(5, 1), take(2, 1)}},
		{[]api.Span{at(2, 1)}, []api.Span{at(5, 1)}, []api.Move{free(2, 1), take(5, 1)}},
		{[]api.Span{at(5, 1)}, []api.Span{at(6, 1)}, []api.Move{free(5, 1), take(6, 1)}},
		{[]api.Span{at(5, 3)}, []api.Span{at(6, 1)}, []api.Move{free(5, 1), free(7, 1)}},
		{[]api.Span{at(6, 1)}, []api.Span{at(5, 3)}, []api.Move{take(5, 1), take(7, 1)}},
		{
			[]api.Span{at(1, 2), at(10, 5), at(30, 1), at(4000, 96)},
			[]api.Span{at(0, 2), at(12, 1), at(31, 2), at(3999, 2)},
			[]api.Move{free(2, 1), free(10, 2), free(13, 2), free(30, 1), free(4001, 95), take(0, 1), take(31, 2), take(3999, 1)},
		},
		{[]api.Span{at(0, 1), at(top, 1)}, []api.Span{at(0, 4096)}, []api.Move{take(1, 4094)}},
	} {
		if got := Diff(c.a, c.b); !slices.Equal(got, c.want) {
			t.Errorf("Diff(%v, %v): %v, not %v", c.a, c.b, got, c.want)
		}
	}
}

// TestDiffOfMany: the most moves that there can be: all free, then all taken.
func TestDiffOfMany(t *testing.T) {
	got := Diff(everyOther(0), everyOther(1))
	if len(got) != 4096 {
		t.Fatal(len(got))
	}
	for i, m := range got {
		want := free(2*i, 1)
		if i >= 2048 {
			want = take(2*(i-2048)+1, 1)
		}
		if m != want {
			t.Fatalf("%d: %v, not %v", i, m, want)
		}
	}
}

// TestDiffOfAll holds each against plain sets; and its moves lead from a to b.
func TestDiffOfAll(t *testing.T) {
	all := sets()
	for _, a := range all {
		for _, b := range all {
			inA, inB := plainOf(a), plainOf(b)
			var want []api.Move
			for _, s := range inA.runs(inB) {
				want = append(want, free(s.Start, s.Len))
			}
			for _, s := range inB.runs(inA) {
				want = append(want, take(s.Start, s.Len))
			}
			got := Diff(a, b)
			if !slices.Equal(got, want) {
				t.Fatalf("Diff(%v, %v): %v, not %v", a, b, got, want)
			}
			replays(t, a, got, b)
		}
	}
}

// TestDiffOfNoSets: one that is none is enough.
func TestDiffOfNoSets(t *testing.T) {
	for _, l := range noSets() {
		for _, set := range [][]api.Span{nil, full(), {at(2, 1)}, everyOther(1), l} {
			if got := Diff(l, set); len(got) != 0 {
				t.Errorf("Diff(%v, %v): %v", l, set, got)
			}
			if got := Diff(set, l); len(got) != 0 {
				t.Errorf("Diff(%v, %v): %v", set, l, got)
			}
		}
		if got := Condense(l); len(got) != 0 {
			t.Errorf("Condense(%v): %v", l, got)
		}
	}
}

// TestCondense: each span becomes taken, and nothing else.
func TestCondense(t *testing.T) {
	for _, set := range sets() {
		var want []api.Move
		for _, s := range set {
			want = append(want, take(s.Start, s.Len))
		}
		got := Condense(set)
		if !slices.Equal(got, want) {
			t.Fatalf("Condense(%v): %v", set, got)
		}
		if !slices.Equal(got, Diff(nil, set)) {
			t.Fatalf("Diff of nothing and %v: %v", set, Diff(nil, set))
		}
		replays(t, nil, got, set)
	}
}

// P8.3

// plainBytes are those of a move, by the library's own order of bytes.
func plainBytes(m api.Move) []byte {
	out := []byte{0}
	if m.Take {
		out[0] = 1
	}
	out = binary.LittleEndian.AppendUint16(out, uint16(m.At.Start))
	return binary.LittleEndian.AppendUint16(out, uint16(m.At.Len))
}

// bothWays: moves have these bytes, and these bytes are theirs.
func bothWays(t *testing.T, moves []api.Move, want []byte) {
	t.Helper()
	if b, e := Bytes(moves); e != 0 || !bytes.Equal(b, want) {
		t.Fatalf("Bytes(%v): %v %v, not %v", moves, b, e, want)
	}
	if l, e := Read(want); e != 0 || !slices.Equal(l, moves) {
		t.Fatalf("Read(%v): %v %v, not %v", want, l, e, moves)
	}
}

// unread: bytes that are those of no moves.
func unread(t *testing.T, b []byte) {
	t.Helper()
	if l, e := Read(b); e != 81 || len(l) != 0 {
		t.Fatalf("Read(%v): %v %v", b, l, e)
	}
}

func TestBytesAndRead(t *testing.T) {
	bothWays(t, nil, nil)
	bothWays(t, []api.Move{}, []byte{})
	bothWays(t, []api.Move{take(5, 3)}, []byte{1, 5, 0, 3, 0})
	bothWays(t, []api.Move{free(5, 3)}, []byte{0, 5, 0, 3, 0})
	bothWays(t, []api.Move{free(0, 1)}, []byte{0, 0, 0, 1, 0})
	bothWays(t, []api.Move{take(0, 4096)}, []byte{1, 0, 0, 0, 16})
	bothWays(t, []api.Move{take(top, 1)}, []byte{1, 255, 15, 1, 0})
	bothWays(t, []api.Move{free(1, top)}, []byte{0, 1, 0, 255, 15})
	bothWays(t, []api.Move{take(256, 255), free(255, 256)}, []byte{1, 0, 1, 255, 0, 0, 255, 0, 0, 1})
	// They needn't lead from any set to another.
	bothWays(t, []api.Move{take(5, 1), take(5, 1), free(9, 2)}, []byte{1, 5, 0, 1, 0, 1, 5, 0, 1, 0, 0, 9, 0, 2, 0})
}

// TestEachStart takes all numbers as Start, with the least and greatest Len.
func TestEachStart(t *testing.T) {
	for n := range 4096 {
		for _, s := range []api.Span{at(n, 1), at(n, 4096-n), at(n, (4097-n)/2)} {
			for _, m := range []api.Move{{Take: true, At: s}, {At: s}} {
				bothWays(t, []api.Move{m}, plainBytes(m))
			}
		}
	}
}

// TestBytesOfWrong: one move that isn't right, wherever it stands.
func TestBytesOfWrong(t *testing.T) {
	for _, s := range wrong() {
		for _, m := range []api.Move{{Take: true, At: s}, {At: s}} {
			for _, l := range [][]api.Move{{m}, {take(1, 1), m}, {m, take(1, 1)}, {free(1, 1), m, take(1, 1)}} {
				if b, e := Bytes(l); e != 81 || len(b) != 0 {
					t.Errorf("Bytes(%v): %v %v", l, b, e)
				}
			}
		}
	}
}

// TestMostMoves: 4096, and no more.
func TestMostMoves(t *testing.T) {
	var moves []api.Move
	var want []byte
	for n := range 4096 {
		m := api.Move{Take: n%3 == 0, At: at(n, 1+n%5*(4095-n)/4)}
		moves = append(moves, m)
		want = append(want, plainBytes(m)...)
	}
	bothWays(t, moves, want)
	bothWays(t, moves[1:], want[5:])
	for _, more := range []int{1, 2, 4096, 70000} {
		l := slices.Concat(moves, slices.Repeat([]api.Move{take(1, 1)}, more))
		if b, e := Bytes(l); e != 81 || len(b) != 0 {
			t.Errorf("Bytes of %d: %d, %v", len(l), len(b), e)
		}
		unread(t, slices.Concat(want, bytes.Repeat([]byte{1, 1, 0, 1, 0}, more)))
	}
	for n := range 5 {
		unread(t, append(slices.Clip(want), make([]byte, n+1)...))
		unread(t, want[:len(want)-1-n%4])
	}
	bothWays(t, Diff(everyOther(0), everyOther(1)), allBytes(Diff(everyOther(0), everyOther(1))))
}

// allBytes are those of moves, whether they can be or not.
func allBytes(moves []api.Move) []byte {
	var out []byte
	for _, m := range moves {
		out = append(out, plainBytes(m)...)
	}
	return out
}

// TestReadOfWrong: bytes of no length that is right, of no kind, of no span.
func TestReadOfWrong(t *testing.T) {
	for _, b := range [][]byte{
		{0}, {1}, {1, 1}, {1, 1, 0}, {1, 1, 0, 1}, {1, 1, 0, 1, 0, 0}, {1, 1, 0, 1, 0, 0, 1, 0, 1}, {1, 1, 0, 1, 0, 1},
		{2, 1, 0, 1, 0}, {3, 1, 0, 1, 0}, {128, 1, 0, 1, 0}, {255, 1, 0, 1, 0}, {254, 1, 0, 1, 0},
		{1, 1, 0, 0, 0}, {0, 0, 0, 0, 0}, {1, 0, 16, 1, 0}, {0, 0, 16, 1, 0}, {1, 255, 15, 2, 0}, {1, 1, 0, 0, 16}, {0, 0, 0, 1, 16},
		{1, 0, 0, 0, 32}, {1, 255, 255, 1, 0}, {1, 5, 0, 255, 255}, {1, 255, 255, 255, 255}, {0, 5, 128, 1, 0}, {0, 1, 0, 1, 128},
		{1, 255, 255, 2, 0}, {0, 255, 255, 5, 0}, // their ends go round at 16 bits
	} {
		unread(t, b)
		unread(t, append([]byte{1, 7, 0, 2, 0}, b...))
		unread(t, append(slices.Clip(b), 0, 7, 0, 2, 0))
	}
}

// TestReadOfEachByte: with each byte in each place the bytes are either such as
// its moves have, or none.
func TestReadOfEachByte(t *testing.T) {
	for _, m := range []api.Move{take(5, 3), free(4000, 96), take(0, 4096), free(top, 1), free(255, 256)} {
		moves := []api.Move{take(1, 2), m, free(3, 4)}
		was, _ := Bytes(moves)
		for i := range was {
			for x := range 256 {
				b := slices.Clone(was)
				b[i] = byte(x)
				if right, l := plainRead(b); right {
					bothWays(t, l, b)
				} else {
					unread(t, b)
				}
			}
		}
	}
}

// plainRead: can bytes of as many moves as they say be, and which are they?
func plainRead(b []byte) (bool, []api.Move) {
	var out []api.Move
	for part := range slices.Chunk(b, 5) {
		start, n := int(binary.LittleEndian.Uint16(part[1:])), int(binary.LittleEndian.Uint16(part[3:]))
		if part[0] > 1 || n < 1 || start+n > 4096 {
			return false, nil
		}
		out = append(out, api.Move{Take: part[0] == 1, At: at(start, n)})
	}
	return true, out
}

// TestReadOfAny: of any bytes what Read takes has just these bytes.
func TestReadOfAny(t *testing.T) {
	r := rand.New(rand.NewSource(3))
	taken := 0
	for range 20000 {
		b := make([]byte, 5*r.Intn(4))
		for i := range b {
			b[i] = byte(r.Intn([]int{2, 256, 20, 256, 8}[i%5]))
		}
		right, l := plainRead(b)
		if !right {
			unread(t, b)
			continue
		}
		bothWays(t, l, b)
		taken++
	}
	if taken < 5000 || taken > 19000 {
		t.Error(taken, "of them were right")
	}
}

// TestThroughBytes: what a set condenses to goes through bytes and back.
func TestThroughBytes(t *testing.T) {
	for _, set := range sets() {
		b, e := Bytes(Condense(set))
		if e != 0 || len(b) != 5*len(set) {
			t.Fatalf("%v: %d bytes, %v", set, len(b), e)
		}
		moves, e := Read(b)
		if e != 0 {
			t.Fatalf("%v: %v", set, e)
		}
		replays(t, nil, moves, set)
	}
}

// P1, P2 and the rules that hold everywhere

// TestAllArguments: each call ends and none panics.
func TestAllArguments(t *testing.T) {
	lists := append(noSets(), sets()...)
	var moves []api.Move
	for _, s := range append(wrong(), edges()...) {
		moves = append(moves, api.Move{Take: true, At: s}, api.Move{At: s})
	}
	for _, l := range lists {
		for i := range moves {
			Replay(l, moves[i:i+1])
		}
		Replay(l, moves)
		Diff(l, noSets()[0])
		Condense(l)
	}
	Bytes(moves)
	for n := range 40 {
		Read(make([]byte, n))
		Read(bytes.Repeat([]byte{1}, n))
		Read(bytes.Repeat([]byte{255}, n))
	}
}

// TestArgumentsStay: what is handed in isn't changed, spare room included.
func TestArgumentsStay(t *testing.T) {
	a := []api.Span{at(1, 3), at(8, 1), at(50, 50), at(60, 60)}
	b := []api.Span{at(4, 2), at(9, 9), at(70, 70)}
	moves := []api.Move{take(4, 4), free(2, 1), take(60, 6), free(70, 7)}
	raw := []byte{1, 4, 0, 4, 0, 0, 2, 0, 1, 0, 9, 9, 9, 9, 9, 9}
	oldA, oldB, oldMoves, oldRaw := slices.Clone(a), slices.Clone(b), slices.Clone(moves), slices.Clone(raw)
	for range 2 {
		Replay(a[:2], moves[:2])
		Replay(a[:2], moves[1:])
		Diff(a[:2], b[:2])
		Diff(b[:2], a[:2])
		Condense(a[:2])
		Bytes(moves[:2])
		Read(raw[:10])
		Read(raw[:11])
	}
	if !slices.Equal(a, oldA) || !slices.Equal(b, oldB) || !slices.Equal(moves, oldMoves) || !bytes.Equal(raw, oldRaw) {
		t.Error(a, b, moves, raw)
	}
}

// overwritten: a list of which everything, spare room too, was written over.
func overwritten[T any](l []T) {
	clear(l[:cap(l)])
}

// TestAnswersAreNew: an answer shares no memory with an argument, nor with
// another answer, spare room too.
func TestAnswersAreNew(t *testing.T) {
	for i, moves := range [][]api.Move{nil, {take(5, 2)}, {take(0, 1), free(1, 3)}, {free(8, 1), free(1, 1), take(1, 1)}} {
		what := strconv.Itoa(i)
		set := []api.Span{at(1, 3), at(8, 1)}
		oldSet, oldMoves := slices.Clone(set), slices.Clone(moves)
		l, _ := Replay(set, moves)
		again, _ := Replay(set, moves)
		want := slices.Clone(again)
		overwritten(l)
		if !slices.Equal(again, want) || !slices.Equal(set, oldSet) || !slices.Equal(moves, oldMoves) {
			t.Error(what, "Replay", again, set, moves)
		}
		b, _ := Bytes(moves)
		oldB := slices.Clone(b)
		read, _ := Read(b)
		overwritten(read)
		other, _ := Bytes(moves)
		overwritten(other)
		if !bytes.Equal(b, oldB) || !slices.Equal(moves, oldMoves) {
			t.Error(what, "Bytes or Read", b, moves)
		}
		read, _ = Read(b)
		overwritten(b)
		if !slices.Equal(read, moves) {
			t.Error(what, "Read", read)
		}
	}
	a, b := []api.Span{at(1, 3)}, []api.Span{at(3, 3)}
	one, two := Diff(a, b), Diff(a, b)
	overwritten(one)
	overwritten(Condense(a))
	if !slices.Equal(two, []api.Move{free(1, 2), take(4, 2)}) || a[0] != at(1, 3) || b[0] != at(3, 3) {
		t.Error(two, a, b)
	}
}

// TestReplayIsASet: what is answered is one by layer 1's own word.
func TestReplayIsASet(t *testing.T) {
	for _, set := range sets() {
		for _, to := range sets() {
			got, e := Replay(set, Diff(set, to))
			if e != 0 || !span.Right(got) {
				t.Fatalf("%v to %v: %v %v", set, to, got, e)
			}
		}
	}
}
