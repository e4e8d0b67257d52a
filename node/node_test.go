package node

import (
	"bytes"
	"encoding/binary"
	"math"
	"math/rand"
	"testing"

	"aquifer/api"
)

const (
	top    = 1<<48 - 1 // MaxStamp
	errPtr = 51
)

// edges are pointers that can be: a hole, and what is least and greatest in each part.
func edges() []api.Ptr {
	return []api.Ptr{
		{},
		{At: 4, Birth: 1}, {At: 4, Birth: 1, Sum: 1}, {At: 4, Birth: 1, Sum: math.MaxUint32},
		{At: 4, Birth: top}, {At: 4, Birth: top, Sum: math.MaxUint32},
		{At: 1023, Birth: 1}, {At: 1023, Birth: top}, {At: 1023, Birth: top, Sum: math.MaxUint32},
		{At: 255, Birth: 255, Sum: 255}, {At: 256, Birth: 256, Sum: 256},
		{At: 0x0203, Birth: 0xf1f2f3f4f5f6, Sum: 0xe1e2e3e4},
		{At: 9, Birth: 1 << 32, Sum: 1 << 31}, {At: 9, Birth: 1<<32 - 1, Sum: 1<<31 - 1},
	}
}

// wrongs are pointers that can't be.
func wrongs() []api.Ptr {
	return []api.Ptr{
		{Sum: 1}, {Sum: math.MaxUint32}, {Birth: 1}, {Birth: 1, Sum: 1}, {Birth: top}, {At: 4}, {At: 4, Sum: 1}, {At: 1023},
		{At: 1, Birth: 1}, {At: 2, Birth: 1}, {At: 3, Birth: 1}, {At: 3, Birth: top, Sum: 5},
		{At: 1024, Birth: 1}, {At: 1025, Birth: 1}, {At: 65540, Birth: 1}, {At: 1<<31 + 4, Birth: 1}, {At: 1<<32 - 1, Birth: 1},
		{At: 1 << 32, Birth: 1}, {At: 1<<32 + 4, Birth: 1}, {At: 1 << 32}, {At: math.MaxInt, Birth: 1},
		{At: -1, Birth: 1}, {At: -4, Birth: 1}, {At: -1<<32 + 4, Birth: 1}, {At: math.MinInt, Birth: 1}, {At: math.MinInt + 4, Birth: 1},
		{At: 4, Birth: top + 1}, {At: 4, Birth: top + 2}, {At: 4, Birth: 1 << 63}, {At: 4, Birth: math.MaxUint64}, {At: math.MinInt},
	}
}

// laid is a pointer as bytes, by the library.
func laid(p api.Ptr) []byte {
	b := binary.LittleEndian.AppendUint32(nil, uint32(p.At))
	b = binary.LittleEndian.AppendUint64(b, p.Birth)
	return binary.LittleEndian.AppendUint32(b, p.Sum)
}

// sector is eight pointers as bytes, by the library.
func sector(l [8]api.Ptr) api.Sector {
	var b []byte
	for _, p := range l {
		b = append(b, laid(p)...)
	}
	return api.Sector(b)
}

// can: is it a hole, or where and when a block can be?
func can(at uint32, birth uint64, sum uint32) bool {
	if at == 0 && birth == 0 && sum == 0 {
		return true
	}
	return 4 <= at && at <= 1023 && 1 <= birth && birth <= top
}

// said is what a sector says, by the library.
func said(s api.Sector) (l [8]api.Ptr, ok bool) {
	for i := range l {
		b := s[16*i:]
		at, birth, sum := binary.LittleEndian.Uint32(b), binary.LittleEndian.Uint64(b[4:]), binary.LittleEndian.Uint32(b[12:])
		if !can(at, birth, sum) {
			return [8]api.Ptr{}, false
		}
		l[i] = api.Ptr{At: int(at), Birth: birth, Sum: sum}
	}
	return l, true
}

// some: a pointer that can be, now and then a hole.
func some(r *rand.Rand) api.Ptr {
	if r.Intn(3) == 0 {
		return api.Ptr{}
	}
	return api.Ptr{At: 4 + r.Intn(1020), Birth: 1 + uint64(r.Int63n(top))>>r.Intn(48), Sum: r.Uint32()}
}

// eight of them.
func eight(r *rand.Rand) [8]api.Ptr {
	var l [8]api.Ptr
	for i := range l {
		l[i] = some(r)
	}
	return l
}

// there holds Bytes and Read of pointers that can be against their sector.
func there(t *testing.T, l [8]api.Ptr) {
	t.Helper()
	want := sector(l)
	if s, e := Bytes(l); s != want || e != 0 {
		t.Fatalf("Bytes(%v): %v, %v", l, s, e)
	}
	if k, e := Read(want); k != l || e != 0 {
		t.Fatalf("Read of the sector of %v: %v, %v", l, k, e)
	}
}

// unlaid: one of them can't be.
func unlaid(t *testing.T, l [8]api.Ptr) {
	t.Helper()
	if s, e := Bytes(l); s != (api.Sector{}) || e != errPtr {
		t.Fatalf("Bytes(%v): %v, %v", l, s, e)
	}
}

// unread: it is no eight pointers' sector.
func unread(t *testing.T, s api.Sector) {
	t.Helper()
	if l, e := Read(s); l != [8]api.Ptr{} || e != errPtr {
		t.Fatalf("Read(%v): %v, %v", s, l, e)
	}
}

// P10.1

// TestExample is the chapter's.
func TestExample(t *testing.T) {
	if s, e := Bytes([8]api.Ptr{}); s != (api.Sector{}) || e != 0 {
		t.Error(s, e)
	}
	if l, e := Read(api.Sector{}); l != [8]api.Ptr{} || e != 0 {
		t.Error(l, e)
	}
}

func TestBytesAndRead(t *testing.T) {
	l := [8]api.Ptr{
		{At: 0x0104, Birth: 0x060504030201, Sum: 0x0a090807}, {}, {At: 4, Birth: 1}, {At: 1023, Birth: top, Sum: math.MaxUint32},
		{}, {}, {At: 5, Birth: 2, Sum: 3}, {At: 6, Birth: 4, Sum: 5},
	}
	const want = "\x04\x01\x00\x00\x01\x02\x03\x04\x05\x06\x00\x00\x07\x08\x09\x0a" +
		"\x00\x00\x00\x00\x00\x00\x00\x00\x00\x00\x00\x00\x00\x00\x00\x00" +
		"\x04\x00\x00\x00\x01\x00\x00\x00\x00\x00\x00\x00\x00\x00\x00\x00" +
		"\xff\x03\x00\x00\xff\xff\xff\xff\xff\xff\x00\x00\xff\xff\xff\xff" +
		"\x00\x00\x00\x00\x00\x00\x00\x00\x00\x00\x00\x00\x00\x00\x00\x00" +
		"\x00\x00\x00\x00\x00\x00\x00\x00\x00\x00\x00\x00\x00\x00\x00\x00" +
		"\x05\x00\x00\x00\x02\x00\x00\x00\x00\x00\x00\x00\x03\x00\x00\x00" +
		"\x06\x00\x00\x00\x04\x00\x00\x00\x00\x00\x00\x00\x05\x00\x00\x00"
	s, e := Bytes(l)
	if string(s[:]) != want || e != 0 {
		t.Errorf("%q, %v", s, e)
	}
	if k, e := Read(api.Sector([]byte(want))); k != l || e != 0 {
		t.Error(k, e)
	}
	there(t, l)
}

// TestEachPlace puts each edge at each place, among holes and among others.
func TestEachPlace(t *testing.T) {
	other := api.Ptr{At: 77, Birth: 88, Sum: 99}
	for i := range 8 {
		for _, p := range edges() {
			var holes [8]api.Ptr
			holes[i] = p
			there(t, holes)
			others := [8]api.Ptr{other, other, other, other, other, other, other, other}
			others[i] = p
			there(t, others)
		}
	}
}

func TestThereAndBack(t *testing.T) {
	r := rand.New(rand.NewSource(1))
	for range 5000 {
		there(t, eight(r))
	}
}

// TestWrongAtEachPlace: one that can't be is enough, wherever it stands.
func TestWrongAtEachPlace(t *testing.T) {
	r := rand.New(rand.NewSource(2))
	for i := range 8 {
		for _, p := range wrongs() {
			var holes [8]api.Ptr
			holes[i] = p
			unlaid(t, holes)
			others := eight(r)
			others[i] = p
			unlaid(t, others)
			others[r.Intn(8)] = wrongs()[r.Intn(len(wrongs()))]
			others[i] = p
			unlaid(t, others)
		}
	}
	for _, p := range wrongs() {
		unlaid(t, [8]api.Ptr{p, p, p, p, p, p, p, p})
	}
}

// TestUnreadAtEachPlace: bytes that no pointer has are enough, wherever they stand.
func TestUnreadAtEachPlace(t *testing.T) {
	r := rand.New(rand.NewSource(3))
	for i := range 8 {
		for _, p := range wrongs() {
			if p.At != int(uint32(p.At)) {
				continue // its bytes would be another's
			}
			var holes [8]api.Ptr
			s := sector(holes)
			copy(s[16*i:], laid(p))
			unread(t, s)
			s = sector(eight(r))
			copy(s[16*i:], laid(p))
			unread(t, s)
		}
	}
}

// TestEachByte changes each byte of a sector to each other one.
func TestEachByte(t *testing.T) {
	r := rand.New(rand.NewSource(4))
	for _, l := range [][8]api.Ptr{{}, eight(r), eight(r)} {
		for i := range 128 {
			for x := range 256 {
				s := sector(l)
				s[i] = byte(x)
				k, ok := said(s)
				if !ok {
					unread(t, s)
					continue
				}
				if sector(k) != s {
					t.Fatalf("%v: %v", s, k)
				}
				there(t, k)
			}
		}
	}
}

// TestReadOfAnyBytes, most of which no pointers have.
func TestReadOfAnyBytes(t *testing.T) {
	r := rand.New(rand.NewSource(5))
	for range 5000 {
		var s api.Sector
		for n := r.Intn(128); n > 0; n-- {
			s[r.Intn(128)] = byte(r.Intn(256))
		}
		if l, ok := said(s); ok {
			there(t, l)
		} else {
			unread(t, s)
		}
	}
	for x := range 256 {
		if x > 0 {
			unread(t, api.Sector(bytes.Repeat([]byte{byte(x)}, 128)))
		}
	}
}

// P10.2

// TestEmpty: of each part of each pointer it hangs.
func TestEmpty(t *testing.T) {
	if !Empty([8]api.Ptr{}) {
		t.Error("eight holes: not empty")
	}
	for i := range 8 {
		for _, p := range append(edges()[1:], wrongs()...) {
			var l [8]api.Ptr
			l[i] = p
			if Empty(l) {
				t.Errorf("%v: empty", l)
			}
			l = [8]api.Ptr{p, p, p, p, p, p, p, p}
			if Empty(l) {
				t.Errorf("%v: empty", l)
			}
			l[i] = api.Ptr{}
			if Empty(l) {
				t.Errorf("%v: empty", l)
			}
		}
	}
}

func TestNewest(t *testing.T) {
	for _, c := range []struct {
		births [8]uint64
		want   uint64
	}{
		{[8]uint64{}, 0},
		{[8]uint64{1}, 1},
		{[8]uint64{0, 0, 0, 0, 0, 0, 0, 1}, 1},
		{[8]uint64{1, 2, 3, 4, 5, 6, 7, 8}, 8},
		{[8]uint64{8, 7, 6, 5, 4, 3, 2, 1}, 8},
		{[8]uint64{3, 3, 3, 3, 3, 3, 3, 3}, 3},
		{[8]uint64{0, 255, 256, 0, 0, 1}, 256},
		{[8]uint64{1<<32 - 1, 1 << 32}, 1 << 32},
		{[8]uint64{1 << 32, 1}, 1 << 32},
		{[8]uint64{top - 1, 0, 0, top}, top},
		{[8]uint64{top, top + 1}, top + 1},
		{[8]uint64{1<<63 - 1, 1 << 63}, 1 << 63},
		{[8]uint64{1, 1 << 63}, 1 << 63},
		{[8]uint64{math.MaxUint64, 1<<63 - 1}, math.MaxUint64},
	} {
		var l [8]api.Ptr
		for i, birth := range c.births {
			if birth > 0 {
				l[i] = api.Ptr{At: 1000 - i, Birth: birth, Sum: uint32(i)}
			}
		}
		if got := Newest(l); got != c.want {
			t.Errorf("%v: %d", c.births, got)
		}
	}
}

// TestNewestAtEachPlace: neither the place nor what else a pointer is counts.
func TestNewestAtEachPlace(t *testing.T) {
	r := rand.New(rand.NewSource(6))
	for range 2000 {
		l := eight(r)
		for i := range l {
			l[i].Birth >>= 1
		}
		i := r.Intn(8)
		birth := uint64(1<<47 + r.Int63n(1<<47))
		l[i] = api.Ptr{At: r.Intn(3) - 1, Birth: birth}
		if got := Newest(l); got != birth {
			t.Fatalf("%v: %d", l, got)
		}
	}
}

// P1, P2 and the rules that hold everywhere

// TestAllArguments: each call ends and none panics.
func TestAllArguments(t *testing.T) {
	r := rand.New(rand.NewSource(7))
	all := append(edges(), wrongs()...)
	for range 5000 {
		var l [8]api.Ptr
		greatest, right, holes := uint64(0), true, true
		for i := range l {
			k := r.Intn(len(all))
			l[i] = all[k]
			greatest = max(greatest, all[k].Birth)
			right = right && k < len(edges())
			holes = holes && k == 0
		}
		if Newest(l) != greatest || Empty(l) != holes {
			t.Fatalf("%v: %d, %v", l, Newest(l), Empty(l))
		}
		if right {
			there(t, l)
		} else {
			unlaid(t, l)
		}
	}
}

// TestNothingIsKept: the same arguments have the same answers, whatever was
// called in between, and whatever became of earlier ones.
func TestNothingIsKept(t *testing.T) {
	r := rand.New(rand.NewSource(8))
	l := eight(r)
	for range 3 {
		there(t, l)
		unlaid(t, [8]api.Ptr{{At: 9, Birth: 9, Sum: 9}, {At: 1}})
		var s api.Sector
		s[3], s[127] = 9, 9
		unread(t, s)
		there(t, [8]api.Ptr{})
		a, _ := Bytes(l)
		clear(a[:])
		k, _ := Read(sector(l))
		clear(k[:])
		if Empty(l) || !Empty(k) || Newest(k) != 0 {
			t.Error("another answer")
		}
	}
}
