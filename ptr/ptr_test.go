package ptr

import (
	"bytes"
	"encoding/binary"
	"math"
	"math/rand"
	"slices"
	"sort"
	"testing"

	"aquifer/api"
)

const (
	top    = 1<<48 - 1 // MaxStamp
	bottom = 4         // Ring
	last   = 1023      // MaxSectors - 1
)

// edgeAts, edgeBirths and edgeSums are what a part of a pointer may be, its
// edges and what lies around them; can tells of each whether a pointer that is
// no hole may have it.
var edgeAts = []struct {
	n   int
	can bool
}{
	{0, false}, {1, false}, {2, false}, {3, false},
	{4, true}, {5, true}, {63, true}, {64, true}, {255, true}, {256, true}, {512, true}, {1022, true}, {1023, true},
	{1024, false}, {1025, false}, {4095, false}, {4096, false}, {65535, false}, {65536 + 4, false}, {1<<31 - 1, false},
	{1 << 31, false}, {1<<32 - 1, false}, {1 << 32, false}, {1<<32 + 4, false}, {1<<33 + 9, false}, {math.MaxInt, false},
	{-1, false}, {-4, false}, {-1024, false}, {-1 << 32, false}, {-1<<32 + 4, false}, {math.MinInt, false}, {math.MinInt + 4, false},
}

var edgeBirths = []struct {
	n   uint64
	can bool
}{
	{0, false},
	{1, true}, {2, true}, {255, true}, {256, true}, {1 << 32, true}, {1<<47 + 1, true}, {top - 1, true}, {top, true},
	{top + 1, false}, {top + 2, false}, {1<<63 - 1, false}, {1 << 63, false}, {math.MaxUint64 - 1, false}, {math.MaxUint64, false},
}

var edgeSums = []uint32{0, 1, 2, 255, 256, 1<<31 - 1, 1 << 31, math.MaxUint32 - 1, math.MaxUint32}

// everyEdge goes through all pointers of those parts; right tells whether each
// can be.
func everyEdge(do func(p api.Ptr, right bool)) {
	for _, at := range edgeAts {
		for _, birth := range edgeBirths {
			for _, sum := range edgeSums {
				none := at.n == 0 && birth.n == 0 && sum == 0
				do(api.Ptr{At: at.n, Birth: birth.n, Sum: sum}, none || at.can && birth.can)
			}
		}
	}
}

// laid is a pointer as bytes, by the library.
func laid(at uint32, birth uint64, sum uint32) []byte {
	b := binary.LittleEndian.AppendUint32(nil, at)
	b = binary.LittleEndian.AppendUint64(b, birth)
	return binary.LittleEndian.AppendUint32(b, sum)
}

// some: a pointer that is Right and no hole.
func some(r *rand.Rand) api.Ptr {
	return api.Ptr{At: bottom + r.Intn(last-bottom+1), Birth: 1 + uint64(r.Int63n(top)), Sum: r.Uint32()}
}

// there holds what Bytes and Read tell of a pointer that is Right against its
// bytes.
func there(t *testing.T, p api.Ptr, want []byte) {
	t.Helper()
	if b, e := Bytes(p); e != api.OK || !bytes.Equal(b, want) {
		t.Errorf("Bytes(%v): %v %v, not %v", p, b, e, want)
	}
	if q, e := Read(want); e != api.OK || q != p {
		t.Errorf("Read(%v): %v %v, not %v", want, q, e, p)
	}
}

// unread: there is no pointer that is Right of which these are the Bytes.
func unread(t *testing.T, b []byte) {
	t.Helper()
	if p, e := Read(b); e != api.ErrPtr || p != (api.Ptr{}) {
		t.Errorf("Read(%v): %v %v", b, p, e)
	}
}

// P5.1

func TestRight(t *testing.T) {
	everyEdge(func(p api.Ptr, right bool) {
		if Right(p) != right {
			t.Errorf("%v: %v", p, !right)
		}
	})
}

// TestRightOfEverySector: from the ring's end to the greatest device's.
func TestRightOfEverySector(t *testing.T) {
	for at := -5000; at <= 5000; at++ {
		want := at >= bottom && at <= last
		for _, birth := range []uint64{1, 77, top} {
			if Right(api.Ptr{At: at, Birth: birth, Sum: 5}) != want {
				t.Errorf("At %d, Birth %d: %v", at, birth, !want)
			}
		}
	}
}

// TestHoles: all of it is zero, or it is none, and then each part must do.
func TestHoles(t *testing.T) {
	if !Right(api.Ptr{}) {
		t.Error("a hole can't be")
	}
	for _, p := range []api.Ptr{{Sum: 1}, {Sum: math.MaxUint32}, {Birth: 1}, {Birth: top}, {At: 4}, {At: 1023}, {At: 9, Sum: 7}, {Birth: 9, Sum: 7}} {
		if Right(p) {
			t.Errorf("%v can be", p)
		}
	}
	if !Right(api.Ptr{At: 4, Birth: 1}) {
		t.Error("without a sum: it can't be")
	}
}

func TestSince(t *testing.T) {
	for _, c := range []struct {
		birth, stamp uint64
		want         bool
	}{
		{1, 0, true}, {1, 1, false}, {1, 2, false},
		{5, 0, true}, {5, 4, true}, {5, 5, false}, {5, 6, false},
		{256, 255, true}, {255, 256, false}, {1 << 32, 1<<32 - 1, true}, {1<<32 - 1, 1 << 32, false},
		{top, top - 1, true}, {top, top, false}, {top, top + 1, false},
		{top + 1, top, true}, {1 << 63, 1<<63 - 1, true}, {1<<63 - 1, 1 << 63, false},
		{1, math.MaxUint64, false}, {math.MaxUint64, 0, true}, {math.MaxUint64, math.MaxUint64 - 1, true}, {math.MaxUint64, math.MaxUint64, false},
	} {
		// What else a pointer is, and whether it can be, is not asked.
		for _, at := range []int{math.MinInt, -1, 0, 3, 4, 9, 1023, 1024, math.MaxInt} {
			for _, sum := range edgeSums {
				p := api.Ptr{At: at, Birth: c.birth, Sum: sum}
				if Since(p, c.stamp) != c.want {
					t.Errorf("%v, %d: %v", p, c.stamp, !c.want)
				}
			}
		}
	}
}

// TestSinceOfUnborn: a hole is born behind no stamp, and nothing whose Birth is
// a hole's.
func TestSinceOfUnborn(t *testing.T) {
	for _, stamp := range []uint64{0, 1, 5, top, math.MaxUint64} {
		for _, p := range []api.Ptr{{}, {At: 9}, {Sum: 1}, {At: 9, Sum: 1}, {At: -1}} {
			if Since(p, stamp) {
				t.Errorf("%v, %d", p, stamp)
			}
		}
	}
}

// TestLess takes a list in which each stands ahead of all behind it.
func TestLess(t *testing.T) {
	list := []api.Ptr{
		{At: math.MinInt, Sum: math.MaxUint32}, // not only of what can be is it asked
		{At: -1},
		{At: -1, Sum: 1},
		{},
		{Sum: 1},
		{Sum: math.MaxUint32},
		{At: 1},
		{At: 1023},
		{At: math.MaxInt},
		{At: math.MinInt, Birth: 1},
		{At: 4, Birth: 1},
		{At: 4, Birth: 1, Sum: 1},
		{At: 4, Birth: 1, Sum: 2},
		{At: 4, Birth: 1, Sum: 1 << 31},
		{At: 4, Birth: 1, Sum: math.MaxUint32},
		{At: 5, Birth: 1},
		{At: 256, Birth: 1},
		{At: 1023, Birth: 1},
		{At: 4, Birth: 2},
		{At: 4, Birth: 256},
		{At: 4, Birth: 1 << 32},
		{At: 4, Birth: top},
		{At: 5, Birth: top, Sum: 9},
		{At: 4, Birth: 1<<63 - 1},
		{At: 4, Birth: 1 << 63},
		{At: -4, Birth: math.MaxUint64},
		{At: 4, Birth: math.MaxUint64},
	}
	for i, p := range list {
		for j, q := range list {
			if Less(p, q) != (i < j) {
				t.Errorf("%v, %v: %v", p, q, i >= j)
			}
		}
	}
}

// TestLessOfEach holds it against the words of the promise, of few numbers so
// that each part is often as great.
func TestLessOfEach(t *testing.T) {
	var list []api.Ptr
	for i := range 27 {
		list = append(list, api.Ptr{At: 4 + i%3, Birth: uint64(1 + i/3%3), Sum: uint32(i / 9)})
	}
	for _, p := range list {
		for _, q := range list {
			want := false
			switch {
			case p.Birth != q.Birth:
				want = p.Birth < q.Birth
			case p.At != q.At:
				want = p.At < q.At
			default:
				want = p.Sum < q.Sum
			}
			if Less(p, q) != want {
				t.Errorf("%v, %v: %v", p, q, !want)
			}
		}
	}
}

// TestSorted: pointers in order are in the order of their bytes, Birth, At and
// Sum with the highest byte first.
func TestSorted(t *testing.T) {
	r := rand.New(rand.NewSource(1))
	key := func(p api.Ptr) []byte {
		b := binary.BigEndian.AppendUint64(nil, p.Birth)
		b = binary.BigEndian.AppendUint32(b, uint32(p.At))
		return binary.BigEndian.AppendUint32(b, p.Sum)
	}
	list := []api.Ptr{{}}
	for range 2000 {
		p := some(r)
		list = append(list, p)
		p.Sum = r.Uint32()
		list = append(list, p)
		p.At = bottom + r.Intn(last-bottom+1)
		list = append(list, p)
	}
	sort.Slice(list, func(i, j int) bool { return Less(list[i], list[j]) })
	for i := 1; i < len(list); i++ {
		if bytes.Compare(key(list[i-1]), key(list[i])) > 0 {
			t.Fatalf("%v ahead of %v", list[i-1], list[i])
		}
	}
}

// P5.2

// TestExample is the chapter's.
func TestExample(t *testing.T) {
	there(t, api.Ptr{}, make([]byte, 16))
}

func TestBytesAndRead(t *testing.T) {
	for _, c := range []struct {
		p    api.Ptr
		want string
	}{
		{api.Ptr{At: 4, Birth: 1}, "\x04\x00\x00\x00\x01\x00\x00\x00\x00\x00\x00\x00\x00\x00\x00\x00"},
		{api.Ptr{At: 255, Birth: 255, Sum: 255}, "\xff\x00\x00\x00\xff\x00\x00\x00\x00\x00\x00\x00\xff\x00\x00\x00"},
		{api.Ptr{At: 256, Birth: 256, Sum: 256}, "\x00\x01\x00\x00\x00\x01\x00\x00\x00\x00\x00\x00\x00\x01\x00\x00"},
		{api.Ptr{At: 0x0203, Birth: 0xf1f2f3f4f5f6, Sum: 0xe1e2e3e4}, "\x03\x02\x00\x00\xf6\xf5\xf4\xf3\xf2\xf1\x00\x00\xe4\xe3\xe2\xe1"},
		{api.Ptr{At: 1023, Birth: top, Sum: math.MaxUint32}, "\xff\x03\x00\x00\xff\xff\xff\xff\xff\xff\x00\x00\xff\xff\xff\xff"},
	} {
		there(t, c.p, []byte(c.want))
	}
	for at := bottom; at <= last; at++ {
		there(t, api.Ptr{At: at, Birth: 3, Sum: 2}, laid(uint32(at), 3, 2))
	}
	for place := range 48 {
		there(t, api.Ptr{At: 9, Birth: 1 << place}, laid(9, 1<<place, 0))
		there(t, api.Ptr{At: 9, Birth: 7, Sum: 1 << (place % 32)}, laid(9, 7, 1<<(place%32)))
	}
}

// TestBytesOfEveryEdge: a pointer that can't be has none.
func TestBytesOfEveryEdge(t *testing.T) {
	everyEdge(func(p api.Ptr, right bool) {
		if right {
			there(t, p, laid(uint32(p.At), p.Birth, p.Sum))
			return
		}
		if b, e := Bytes(p); e != api.ErrPtr || len(b) != 0 {
			t.Errorf("%v: %v %v", p, b, e)
		}
	})
}

// TestReadOfEveryEdge: what bytes of four, eight and four can say, and no
// pointer that is Right has.
func TestReadOfEveryEdge(t *testing.T) {
	everyEdge(func(p api.Ptr, right bool) {
		if p.At < 0 || p.At > math.MaxUint32 {
			return // its bytes would be another's
		}
		b := laid(uint32(p.At), p.Birth, p.Sum)
		if right {
			there(t, p, b)
			return
		}
		unread(t, b)
	})
	for place := 48; place < 64; place++ {
		unread(t, laid(9, 1<<place, 0))
		unread(t, laid(9, 1<<place|1, 0))
	}
	for place := 10; place < 32; place++ {
		unread(t, laid(1<<place, 1, 0))
		unread(t, laid(1<<place|9, 1, 0))
	}
}

// TestReadOfOtherLengths: a pointer is sixteen bytes, no fewer and no more.
func TestReadOfOtherLengths(t *testing.T) {
	unread(t, nil)
	long := append(laid(9, 1, 5), laid(9, 1, 5)...)
	for many := range 200 {
		if many == 16 {
			continue
		}
		unread(t, make([]byte, many))
		unread(t, bytes.Repeat([]byte{1}, many))
		if many <= len(long) {
			unread(t, long[:many])
			unread(t, long[len(long)-many:])
		}
	}
	unread(t, make([]byte, 1<<20))
}

// TestReadOfOneByte changes each byte of two pointers' to each other one: what
// is read has those bytes, what isn't read has none.
func TestReadOfOneByte(t *testing.T) {
	for _, p := range []api.Ptr{{}, {At: 0x0104, Birth: 0x010101010101, Sum: 0x01010101}} {
		old, _ := Bytes(p)
		for i := range old {
			for x := range 256 {
				b := slices.Clone(old)
				b[i] = byte(x)
				at, birth, sum := binary.LittleEndian.Uint32(b), binary.LittleEndian.Uint64(b[4:]), binary.LittleEndian.Uint32(b[12:])
				none := at == 0 && birth == 0 && sum == 0
				if none || at >= bottom && at <= last && birth >= 1 && birth <= top {
					there(t, api.Ptr{At: int(at), Birth: birth, Sum: sum}, b)
				} else {
					unread(t, b)
				}
			}
		}
	}
}

func TestThereAndBack(t *testing.T) {
	r := rand.New(rand.NewSource(2))
	for range 20000 {
		p := some(r)
		p.Birth >>= r.Intn(48)
		p.Birth = max(p.Birth, 1)
		there(t, p, laid(uint32(p.At), p.Birth, p.Sum))
	}
}

// P1, P2 and the rules that hold everywhere

// TestAllArguments: each call ends and none panics.
func TestAllArguments(t *testing.T) {
	var list []api.Ptr
	everyEdge(func(p api.Ptr, right bool) {
		list = append(list, p)
		Bytes(p)
		for _, birth := range edgeBirths {
			Since(p, birth.n)
		}
	})
	for _, p := range list[:500] {
		for _, q := range list {
			if Less(p, q) && Less(q, p) {
				t.Fatalf("%v and %v: each is the lesser", p, q)
			}
			if !Less(p, q) && !Less(q, p) && p != q {
				t.Fatalf("%v and %v: neither is", p, q)
			}
		}
	}
	r := rand.New(rand.NewSource(3))
	for range 20000 {
		b := make([]byte, r.Intn(34))
		r.Read(b)
		if p, e := Read(b); e == api.OK {
			there(t, p, b)
		} else {
			unread(t, b)
		}
	}
}

// TestArgumentsStay: bytes that are handed in aren't changed, spare room
// included, and what is in that doesn't count.
func TestArgumentsStay(t *testing.T) {
	room := append(laid(9, 8, 7), "spare room"...)
	old := slices.Clone(room)
	if p, e := Read(room[:16]); e != api.OK || p != (api.Ptr{At: 9, Birth: 8, Sum: 7}) {
		t.Error(p, e)
	}
	unread(t, room[:15])
	unread(t, room[:17])
	unread(t, room[1:17])
	if !bytes.Equal(room, old) {
		t.Errorf("%q", room)
	}
}

// TestAnswersAreNew: they may be written over, spare room too, and what they
// were read from.
func TestAnswersAreNew(t *testing.T) {
	p := api.Ptr{At: 9, Birth: 8, Sum: 7}
	for _, p := range []api.Ptr{p, {}} {
		a, _ := Bytes(p)
		b, _ := Bytes(p)
		want := slices.Clone(b)
		for i := range a[:cap(a)] {
			a[:cap(a)][i] = 0xEE
		}
		if !bytes.Equal(b, want) {
			t.Errorf("%v: %v", p, b)
		}
		there(t, p, want)
	}
	b := laid(9, 8, 7)
	q, _ := Read(b)
	clear(b)
	if q != p {
		t.Error(q)
	}
	there(t, p, laid(9, 8, 7))
}

// TestNothingIsKept: the same arguments have the same answers, whatever was
// called in between.
func TestNothingIsKept(t *testing.T) {
	p, q := api.Ptr{At: 9, Birth: 8, Sum: 7}, api.Ptr{At: 8, Birth: 9}
	for range 3 {
		there(t, p, laid(9, 8, 7))
		if !Right(p) || !Less(p, q) || Less(q, p) || !Since(p, 7) || Since(p, 8) {
			t.Error("another answer")
		}
		Bytes(api.Ptr{At: 3, Birth: 1})
		unread(t, []byte("in between"))
		there(t, api.Ptr{}, make([]byte, 16))
	}
}
