package dead

import (
	"bytes"
	"encoding/binary"
	"math"
	"math/rand"
	"slices"
	"sort"
	"testing"

	"aquifer/api"
)

const (
	top     = 1<<48 - 1 // MaxStamp
	errDead = 131
)

func p(at int, birth uint64, sum uint32) api.Ptr { return api.Ptr{At: at, Birth: birth, Sum: sum} }

// edges are the pointers that just can be, in order.
func edges() []api.Ptr {
	return []api.Ptr{
		p(4, 1, 0), p(4, 1, 1), p(4, 1, math.MaxUint32), p(5, 1, 0), p(1023, 1, 0), p(1023, 1, math.MaxUint32),
		p(4, 2, 0), p(4, top-1, 9), p(4, top, 0), p(1022, top, 0), p(1023, top, 0), p(1023, top, math.MaxUint32),
	}
}

// wrong are the pointers that can be in no list.
func wrong() []api.Ptr {
	return []api.Ptr{
		{}, p(0, 1, 0), p(3, 1, 0), p(3, top, 7), p(-4, 1, 0), p(-1, 5, 0), p(1024, 1, 0), p(1025, 9, 9),
		p(4, 0, 0), p(1023, 0, 5), p(4, top+1, 0), p(4, math.MaxUint64, 0), p(1023, 1<<63, 1),
		p(0, 0, 1), p(0, 0, math.MaxUint32), p(0, 5, 0), p(4, 0, math.MaxUint32), p(1<<32, 1, 0), p(1<<32+4, 1, 0), p(1<<16+4, 1, 0),
		p(-1<<32+4, 1, 0), p(math.MaxInt, 1, 0), p(math.MinInt, 1, 0), p(math.MinInt+4, 1, 0), p(256, 1<<48, 3),
	}
}

// ahead is the order of pointers by hand: by their birth, then where they are,
// then their sum.
func ahead(a, b api.Ptr) bool {
	if a.Birth != b.Birth {
		return a.Birth < b.Birth
	}
	if a.At != b.At {
		return a.At < b.At
	}
	return a.Sum < b.Sum
}

// sorted is the list of some pointers, of equal ones one.
func sorted(l []api.Ptr) []api.Ptr {
	out := slices.Clone(l)
	sort.Slice(out, func(i, j int) bool { return ahead(out[i], out[j]) })
	return slices.Compact(out)
}

// anyPtr is one of few enough that they meet.
func anyPtr(r *rand.Rand) api.Ptr { return p(4+r.Intn(4), 1+uint64(r.Intn(6)), uint32(r.Intn(3))) }

// anyList is a list of up to so many pointers.
func anyList(r *rand.Rand, many int) []api.Ptr {
	var out []api.Ptr
	for range r.Intn(many + 1) {
		out = append(out, anyPtr(r))
	}
	return sorted(out)
}

// long is a list of so many pointers.
func long(many int) []api.Ptr {
	var out []api.Ptr
	for i := range many {
		out = append(out, p(4+i%1020, 3+uint64(i/1020), uint32(i)*7919))
	}
	return out
}

// lists are some of all sizes.
func lists() [][]api.Ptr {
	out := [][]api.Ptr{nil, {}, edges(), long(1), long(2), long(1020), long(1021), long(3999), long(4000), long(4001), long(9000)}
	for _, q := range edges() {
		out = append(out, []api.Ptr{q})
	}
	r := rand.New(rand.NewSource(2))
	for range 30 {
		out = append(out, anyList(r, 20))
	}
	return out
}

// noLists are pointers that are none.
func noLists() [][]api.Ptr {
	out := [][]api.Ptr{
		{p(9, 3, 0), p(5, 3, 0)},             // the sector falls
		{p(5, 3, 0), p(5, 3, 0)},             // one is there twice
		{p(5, 3, 1), p(5, 3, 0)},             // the sum falls
		{p(5, 3, 0), p(9, 2, 0)},             // the birth falls
		{p(5, 3, 0), p(5, 3, 1), p(5, 3, 1)}, // the last is there twice
		{p(5, 3, 0), p(6, 3, 0), p(5, 4, 0), p(7, 3, 0)},
		{p(4, 1, 0), p(4, 3, 0), p(4, 2, 0), p(4, 4, 0)},
		{{}, {}},
	}
	for _, q := range wrong() {
		out = append(out, []api.Ptr{q}, []api.Ptr{q, p(1023, top, 9)}, []api.Ptr{p(4, 1, 0), q}, []api.Ptr{p(4, 1, 0), q, p(1023, top, 9)})
	}
	back := long(3000)
	slices.Reverse(back)
	last := append(long(3000), p(4, 1, 0))
	return append(out, back, last)
}

// roomy is a list with room behind it, which is filled.
func roomy(l []api.Ptr) []api.Ptr {
	out := append(slices.Clone(l), p(77, 77, 77), p(78, 78, 78), p(79, 79, 79))
	return out[:len(l)]
}

// whole is a list with the room behind it.
func whole[T any](l []T) []T { return l[:cap(l)] }

// scribble writes over a list and its room.
func scribble(l []api.Ptr) {
	for i := range whole(l) {
		whole(l)[i] = p(500, 500, 500)
	}
}

// adds is an Add that must go well.
func adds(t *testing.T, l []api.Ptr, q api.Ptr, want []api.Ptr) {
	t.Helper()
	if got, e := Add(l, q); !slices.Equal(got, want) || e != 0 {
		t.Fatalf("Add(%v, %v): %v, %v, not %v", l, q, got, e, want)
	}
}

// addFails is an Add that must answer the error.
func addFails(t *testing.T, l []api.Ptr, q api.Ptr) {
	t.Helper()
	if got, e := Add(l, q); len(got) != 0 || e != errDead {
		t.Fatalf("Add(%v, %v): %v, %v", l, q, got, e)
	}
}

// merges holds both ways to merge two lists against what they must be.
func merges(t *testing.T, a, b, want []api.Ptr) {
	t.Helper()
	for range 2 {
		if got, e := Merge(a, b); !slices.Equal(got, want) || e != 0 {
			t.Fatalf("Merge(%v, %v): %v, %v, not %v", a, b, got, e, want)
		}
		a, b = b, a
	}
}

// mergeFails: both ways must answer the error.
func mergeFails(t *testing.T, a, b []api.Ptr) {
	t.Helper()
	for range 2 {
		if got, e := Merge(a, b); len(got) != 0 || e != errDead {
			t.Fatalf("Merge(%v, %v): %v, %v", a, b, got, e)
		}
		a, b = b, a
	}
}

// splits holds a Split against what it must be.
func splits(t *testing.T, l []api.Ptr, stamp uint64, old, late []api.Ptr) {
	t.Helper()
	if a, b := Split(l, stamp); !slices.Equal(a, old) || !slices.Equal(b, late) {
		t.Fatalf("Split(%v, %d): %v, %v, not %v, %v", l, stamp, a, b, old, late)
	}
}

// P13.1

func TestRight(t *testing.T) {
	for _, l := range lists() {
		if !Right(l) {
			t.Errorf("%v: none", l)
		}
	}
	for _, l := range noLists() {
		if Right(l) {
			t.Errorf("%v: a list", l)
		}
	}
}

// TestRightOfTwo holds every pair of a few pointers against the order by hand.
func TestRightOfTwo(t *testing.T) {
	l := append(edges(), wrong()...)
	can := func(q api.Ptr) bool { return slices.Contains(edges(), q) }
	for _, a := range l {
		for _, b := range l {
			if want := can(a) && can(b) && ahead(a, b); Right([]api.Ptr{a, b}) != want {
				t.Errorf("%v, %v: not %v", a, b, want)
			}
		}
	}
}

// TestRightEverywhere: one wrong place in a list is seen, wherever it is.
func TestRightEverywhere(t *testing.T) {
	for i := range 40 {
		l := long(40)
		l[i] = api.Ptr{}
		if Right(l) {
			t.Errorf("a hole at %d", i)
		}
		if i > 0 {
			l = long(40)
			l[i-1], l[i] = l[i], l[i-1]
			if Right(l) {
				t.Errorf("%d and %d changed", i-1, i)
			}
			l = long(40)
			l[i-1] = l[i]
			if Right(l) {
				t.Errorf("%d twice", i)
			}
		}
	}
}

func TestAdd(t *testing.T) {
	a, b, c := p(20, 1, 0), p(5, 3, 0), p(9, 3, 0)
	adds(t, nil, b, []api.Ptr{b})
	adds(t, []api.Ptr{}, b, []api.Ptr{b})
	adds(t, []api.Ptr{b}, a, []api.Ptr{a, b})
	adds(t, []api.Ptr{a}, b, []api.Ptr{a, b})
	adds(t, []api.Ptr{a, c}, b, []api.Ptr{a, b, c})
	adds(t, []api.Ptr{a, b}, c, []api.Ptr{a, b, c})
	// One that differs by its sum alone is another one.
	adds(t, []api.Ptr{b}, p(5, 3, 1), []api.Ptr{b, p(5, 3, 1)})
	adds(t, []api.Ptr{p(5, 3, 1)}, b, []api.Ptr{b, p(5, 3, 1)})
	for _, l := range lists() {
		for _, q := range append(edges(), p(9, 4, 4), p(700, 5, 5)) {
			if slices.Contains(l, q) {
				addFails(t, l, q)
			} else {
				adds(t, l, q, sorted(append(slices.Clone(l), q)))
			}
		}
	}
}

func TestAddErrors(t *testing.T) {
	for _, l := range lists() {
		for _, q := range wrong() {
			addFails(t, l, q)
		}
		for i, q := range l {
			if i < 20 || i == len(l)-1 {
				addFails(t, l, q)
			}
		}
	}
}

// TestAddBeyondBytes: a list may have more than can be laid out as bytes.
func TestAddBeyondBytes(t *testing.T) {
	adds(t, long(4000), p(4, 100, 0), append(long(4000), p(4, 100, 0)))
	adds(t, long(4000), p(4, 1, 0), append([]api.Ptr{p(4, 1, 0)}, long(4000)...))
	merges(t, long(4000), []api.Ptr{p(4, 1, 0), p(4, 100, 0)}, append(append([]api.Ptr{p(4, 1, 0)}, long(4000)...), p(4, 100, 0)))
}

// TestSplitExample is the chapter's.
func TestSplitExample(t *testing.T) {
	a, b, c := p(7, 1, 0), p(8, 2, 0), p(9, 5, 0)
	splits(t, []api.Ptr{a, b, c}, 2, []api.Ptr{a, b}, []api.Ptr{c})
	splits(t, []api.Ptr{a, b, c}, 0, nil, []api.Ptr{a, b, c})
	splits(t, []api.Ptr{a, b, c}, 1, []api.Ptr{a}, []api.Ptr{b, c})
	splits(t, []api.Ptr{a, b, c}, 3, []api.Ptr{a, b}, []api.Ptr{c})
	splits(t, []api.Ptr{a, b, c}, 4, []api.Ptr{a, b}, []api.Ptr{c})
	splits(t, []api.Ptr{a, b, c}, 5, []api.Ptr{a, b, c}, nil)
	splits(t, []api.Ptr{a, b, c}, math.MaxUint64, []api.Ptr{a, b, c}, nil)
}

func TestSplit(t *testing.T) {
	for _, l := range lists() {
		stamps := []uint64{0, 1, 2, 3, 4, 5, 6, 7, 8, top - 2, top - 1, top, top + 1, 1 << 63, math.MaxUint64}
		for _, stamp := range stamps {
			i := 0
			for i < len(l) && l[i].Birth <= stamp {
				i++
			}
			splits(t, l, stamp, l[:i], l[i:])
			old, late := Split(l, stamp)
			merges(t, old, late, l)
		}
	}
}

func TestMerge(t *testing.T) {
	a, b, c, d := p(20, 1, 0), p(5, 3, 0), p(9, 3, 0), p(7, 8, 0)
	merges(t, nil, nil, nil)
	merges(t, nil, []api.Ptr{}, nil)
	merges(t, nil, []api.Ptr{a}, []api.Ptr{a})
	merges(t, []api.Ptr{}, []api.Ptr{a, b}, []api.Ptr{a, b})
	merges(t, []api.Ptr{a, b}, []api.Ptr{c, d}, []api.Ptr{a, b, c, d})
	merges(t, []api.Ptr{a, c}, []api.Ptr{b, d}, []api.Ptr{a, b, c, d})
	merges(t, []api.Ptr{a, d}, []api.Ptr{b, c}, []api.Ptr{a, b, c, d})
	merges(t, []api.Ptr{p(5, 3, 2)}, []api.Ptr{p(5, 3, 1), p(5, 3, 3)}, []api.Ptr{p(5, 3, 1), p(5, 3, 2), p(5, 3, 3)})
	mergeFails(t, []api.Ptr{a}, []api.Ptr{a})
	mergeFails(t, []api.Ptr{a, b}, []api.Ptr{b, c})
	mergeFails(t, []api.Ptr{a, d}, []api.Ptr{b, c, d})
	mergeFails(t, []api.Ptr{a, b, c, d}, []api.Ptr{a})
	mergeFails(t, []api.Ptr{a, b, c, d}, []api.Ptr{a, b, c, d})
}

// TestMergeAny deals pointers out to two lists, and now and then one to both.
func TestMergeAny(t *testing.T) {
	r := rand.New(rand.NewSource(7))
	for range 3000 {
		all := anyList(r, 16)
		var a, b []api.Ptr
		twice := false
		for _, q := range all {
			k := r.Intn(40)
			if k < 20 || k == 39 {
				a = append(a, q)
			}
			if k >= 20 {
				b = append(b, q)
			}
			twice = twice || k == 39
		}
		if twice {
			mergeFails(t, a, b)
		} else {
			merges(t, a, b, all)
		}
	}
}

// TestMergeLong merges every third of many with the others.
func TestMergeLong(t *testing.T) {
	all := long(9000)
	var a, b []api.Ptr
	for i, q := range all {
		if i%3 == 0 {
			a = append(a, q)
		} else {
			b = append(b, q)
		}
	}
	merges(t, a, b, all)
	mergeFails(t, a, a[len(a)-1:])
	mergeFails(t, append(b[:0:0], b[len(b)-1]), b)
}

func TestBirths(t *testing.T) {
	for _, c := range []struct {
		l    []api.Ptr
		want []uint64
	}{
		{nil, nil},
		{[]api.Ptr{p(4, 7, 0)}, []uint64{7}},
		{[]api.Ptr{p(4, 7, 0), p(4, 7, 1), p(5, 7, 0)}, []uint64{7}},
		{[]api.Ptr{p(20, 1, 0), p(5, 3, 0), p(9, 3, 0), p(7, 8, 0)}, []uint64{1, 3, 8}},
		{edges(), []uint64{1, 2, top - 1, top}},
		{long(4080), []uint64{3, 4, 5, 6}},
	} {
		if got := Births(c.l); !slices.Equal(got, c.want) {
			t.Errorf("Births(%v): %v, not %v", c.l, got, c.want)
		}
	}
	for _, l := range lists() {
		seen := map[uint64]int{}
		for _, q := range l {
			seen[q.Birth]++
		}
		var want []uint64
		for n := range seen {
			want = append(want, n)
		}
		slices.Sort(want)
		if got := Births(l); !slices.Equal(got, want) {
			t.Errorf("Births(%v): %v, not %v", l, got, want)
		}
	}
}

// TestAnyAdds holds a list that grows and shrinks against a plain set.
func TestAnyAdds(t *testing.T) {
	r := rand.New(rand.NewSource(11))
	for range 60 {
		var l []api.Ptr
		set := map[api.Ptr]int{}
		for range 60 {
			q := anyPtr(r)
			next, e := Add(l, q)
			if set[q]++; (set[q] > 1) != (e == errDead) || e != 0 && len(next) != 0 {
				t.Fatalf("Add(%v, %v): %v, %v", l, q, next, e)
			}
			if e == 0 {
				l = next
			}
			if r.Intn(20) == 0 {
				l, _ = Split(l, uint64(r.Intn(6)))
				set = map[api.Ptr]int{}
				for _, q := range l {
					set[q]++
				}
			}
			if !Right(l) || len(l) != len(set) {
				t.Fatal(l, set)
			}
		}
	}
}

// P13.2

// laid is a list's bytes, by the library.
func laid(l []api.Ptr) []byte {
	var out []byte
	for _, q := range l {
		out = binary.LittleEndian.AppendUint32(out, uint32(q.At))
		out = binary.LittleEndian.AppendUint64(out, q.Birth)
		out = binary.LittleEndian.AppendUint32(out, q.Sum)
	}
	return out
}

func bytesFail(t *testing.T, l []api.Ptr) {
	t.Helper()
	if b, e := Bytes(l); len(b) != 0 || e != errDead {
		t.Fatalf("Bytes(%v): %v, %v", l, b, e)
	}
}

func readFails(t *testing.T, b []byte) {
	t.Helper()
	if l, e := Read(b); len(l) != 0 || e != errDead {
		t.Fatalf("Read(%v): %v, %v", b, l, e)
	}
}

func TestBytes(t *testing.T) {
	l := []api.Ptr{p(0x203, 0x0102030405, 0xa1b2c3d4), p(7, top, 1)}
	want := []byte{
		3, 2, 0, 0, 5, 4, 3, 2, 1, 0, 0, 0, 0xd4, 0xc3, 0xb2, 0xa1,
		7, 0, 0, 0, 255, 255, 255, 255, 255, 255, 0, 0, 1, 0, 0, 0,
	}
	if b, e := Bytes(l); !bytes.Equal(b, want) || e != 0 {
		t.Error(b, e)
	}
	for _, l := range lists() {
		if len(l) > 4000 {
			bytesFail(t, l)
		} else if b, e := Bytes(l); !bytes.Equal(b, laid(l)) || e != 0 {
			t.Errorf("Bytes(%v): %v, %v", l, b, e)
		}
	}
}

func TestBytesErrors(t *testing.T) {
	for _, l := range noLists() {
		bytesFail(t, l)
	}
	for _, many := range []int{4001, 4002, 4095, 4096, 5000, 70000} {
		bytesFail(t, long(many))
	}
	bytesFail(t, make([]api.Ptr, 4000))
	bytesFail(t, append(long(3999), p(4, 1, 0)))
}

func TestRead(t *testing.T) {
	for _, l := range lists() {
		if len(l) > 4000 {
			readFails(t, laid(l))
		} else if got, e := Read(laid(l)); !slices.Equal(got, l) || e != 0 {
			t.Errorf("Read of the bytes of %v: %v, %v", l, got, e)
		}
	}
	for _, b := range [][]byte{nil, {}} {
		if l, e := Read(b); len(l) != 0 || e != 0 {
			t.Error(l, e)
		}
	}
}

func TestReadErrors(t *testing.T) {
	for _, l := range noLists() {
		if !slices.ContainsFunc(l, func(q api.Ptr) bool { return q.At < 0 || q.At > math.MaxUint32 }) {
			readFails(t, laid(l))
		}
	}
	for _, many := range []int{4001, 4002, 4095, 4096, 5000, 70000} {
		readFails(t, laid(long(many)))
	}
	// What is cut short, or has something behind it.
	b := laid(long(5))
	for n := range len(b) {
		if n%16 != 0 {
			readFails(t, b[:n])
		}
	}
	for n := 1; n < 16; n++ {
		readFails(t, make([]byte, n))
		readFails(t, append(slices.Clone(b), make([]byte, n)...))
		readFails(t, append(laid(long(4000)), make([]byte, n)...))
	}
	readFails(t, make([]byte, 16))
	readFails(t, make([]byte, 64000))
	readFails(t, append(slices.Clone(b), make([]byte, 16)...))
	readFails(t, append(make([]byte, 16), b...))
	readFails(t, append(slices.Clone(b), b...))
	readFails(t, append(slices.Clone(b), b[64:]...))
}

// TestReadAny: what can be read is what it is the bytes of, and nothing else can.
func TestReadAny(t *testing.T) {
	r := rand.New(rand.NewSource(13))
	for range 20000 {
		l := anyList(r, 5)
		b := laid(l)
		if len(b) > 0 {
			b[r.Intn(len(b))] ^= 1 << r.Intn(8)
		}
		// By hand: each is right, and ahead of the next one.
		var want []api.Ptr
		can := true
		for i := 0; i < len(b); i += 16 {
			q := p(int(binary.LittleEndian.Uint32(b[i:])), binary.LittleEndian.Uint64(b[i+4:]), binary.LittleEndian.Uint32(b[i+12:]))
			can = can && q.At >= 4 && q.At <= 1023 && q.Birth >= 1 && q.Birth <= top
			can = can && (len(want) == 0 || ahead(want[len(want)-1], q))
			want = append(want, q)
		}
		if !can {
			readFails(t, b)
		} else if got, e := Read(b); !slices.Equal(got, want) || e != 0 {
			t.Fatalf("Read(%v): %v, %v", b, got, e)
		} else if back, e := Bytes(got); !bytes.Equal(back, b) || e != 0 {
			t.Fatalf("Bytes(%v): %v, %v", got, back, e)
		}
	}
}

// What holds everywhere

// TestAllArguments: every call ends and none panics (P1).
func TestAllArguments(t *testing.T) {
	all := append(lists(), noLists()...)
	for i, a := range all {
		for _, q := range append(edges(), wrong()...) {
			if len(a) < 100 {
				Add(a, q)
			}
		}
		for _, stamp := range []uint64{0, 1, 3, top, math.MaxUint64} {
			Split(a, stamp)
		}
		for k, b := range all {
			if len(a)+len(b) < 200 || (i+k)%40 == 0 {
				Merge(a, b)
			}
		}
		Right(a)
		Births(a)
		Bytes(a)
		Read(laid(a))
	}
	r := rand.New(rand.NewSource(17))
	for range 5000 {
		b := make([]byte, r.Intn(50))
		r.Read(b)
		Read(b)
	}
}

// TestArgumentsUnchanged: nothing that is handed in is changed, nor the room
// behind it.
func TestArgumentsUnchanged(t *testing.T) {
	for _, list := range append(lists(), noLists()...) {
		l, m := roomy(list), roomy(long(3))
		was, wasToo := slices.Clone(whole(l)), slices.Clone(whole(m))
		raw := append(laid(list), 1, 2, 3)[:16*len(list)]
		wasRaw := slices.Clone(whole(raw))
		Right(l)
		Add(l, p(9, 4, 4))
		Add(l, p(1023, top, 1))
		Split(l, 0)
		Split(l, 3)
		Split(l, top)
		Merge(l, m)
		Merge(m, l)
		Merge(l, nil)
		Births(l)
		Bytes(l)
		Read(raw)
		if !slices.Equal(whole(l), was) || !slices.Equal(whole(m), wasToo) || !bytes.Equal(whole(raw), wasRaw) {
			t.Fatalf("%v: changed", list)
		}
	}
}

// TestAnswersAreNew: no answer shares memory with an argument, nor with
// another list of its own, spare room included.
func TestAnswersAreNew(t *testing.T) {
	held := func(what string, answer []api.Ptr, l ...[]api.Ptr) {
		t.Helper()
		was := slices.Clone(answer)
		for _, l := range l {
			scribble(l)
		}
		if !slices.Equal(answer, was) {
			t.Errorf("%s: shared", what)
		}
	}
	clean := func(what string, answer []api.Ptr, l []api.Ptr) {
		t.Helper()
		was := slices.Clone(whole(l))
		scribble(answer)
		if !slices.Equal(whole(l), was) {
			t.Errorf("%s: shares spare room", what)
		}
	}
	for _, list := range lists() {
		for _, q := range []api.Ptr{p(4, 1, 7), p(9, 4, 4), p(1023, top, 1)} {
			l := roomy(list)
			out, _ := Add(l, q)
			clean("Add", out, l)
			l = roomy(list)
			out, _ = Add(l, q)
			held("Add", out, l)
		}
		for _, stamp := range []uint64{0, 1, 2, 3, 4, top} {
			l := roomy(list)
			a, b := Split(l, stamp)
			held("Split", a, l, b)
			a, b = Split(roomy(list), stamp)
			held("Split", b, a)
			l = roomy(list)
			a, b = Split(l, stamp)
			clean("Split", a, l)
			clean("Split", b, l)
		}
		for _, other := range [][]api.Ptr{nil, {p(4, 1, 7)}, {p(1023, top, 1)}, {p(4, 1, 7), p(9, 4, 4), p(1023, top, 1)}} {
			a, b := roomy(list), roomy(other)
			out, _ := Merge(a, b)
			held("Merge", out, a, b)
			a, b = roomy(list), roomy(other)
			out, _ = Merge(a, b)
			clean("Merge", out, a)
			a, b = roomy(list), roomy(other)
			out, _ = Merge(b, a)
			clean("Merge", out, a)
		}
	}
}

// TestNothingKept: what is written over behind a call is not seen again.
func TestNothingKept(t *testing.T) {
	for range 2 {
		l := long(50)
		a, _ := Bytes(l)
		want := laid(l)
		scribble(l)
		if !bytes.Equal(a, want) {
			t.Error("Bytes keeps its list")
		}
		got, _ := Read(a)
		clear(whole(a))
		if !slices.Equal(got, long(50)) {
			t.Error("Read keeps its bytes")
		}
		births := Births(got)
		scribble(got)
		if !slices.Equal(births, []uint64{3}) {
			t.Error("Births keeps its list")
		}
	}
}
