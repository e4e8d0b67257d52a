package sum

import (
	"bytes"
	"hash/crc32"
	"math"
	"math/bits"
	"math/rand"
	"slices"
	"testing"
)

// divided is the sum by another way than the program's: as the rest of a
// division by 0x1EDC6F41 from the highest bit on, each byte and the rest itself
// read from the other end.
func divided(sum uint32, b []byte) uint32 {
	rest := bits.Reverse32(^sum)
	for _, x := range b {
		x = bits.Reverse8(x)
		for place := 7; place >= 0; place-- {
			out := rest>>31 ^ uint32(x>>place)&1
			rest <<= 1
			if out == 1 {
				rest ^= 0x1EDC6F41
			}
		}
	}
	return ^bits.Reverse32(rest)
}

// library is the sum as the library has it.
func library(sum uint32, b []byte) uint32 {
	return crc32.Update(sum, crc32.MakeTable(crc32.Castagnoli), b)
}

// check holds a sum against both.
func check(t *testing.T, sum uint32, b []byte) {
	t.Helper()
	x := More(sum, b)
	if want := divided(sum, b); x != want {
		t.Errorf("More(%#x, %d bytes %.20x): %#x, not %#x", sum, len(b), b, x, want)
	}
	if want := library(sum, b); x != want {
		t.Errorf("More(%#x, %d bytes %.20x): %#x, the library has %#x", sum, len(b), b, x, want)
	}
}

// counting: so many bytes, each by as much above the one ahead.
func counting(many int, first, step byte) []byte {
	b := make([]byte, many)
	for i := range b {
		b[i] = first + byte(i)*step
	}
	return b
}

// P3.1

// TestKnownSums: what others have published.
func TestKnownSums(t *testing.T) {
	for i, c := range []struct {
		b    []byte
		want uint32
	}{
		{nil, 0},
		{[]byte{}, 0},
		{[]byte("a"), 0xC1D04330},
		{[]byte("abc"), 0x364B3FB7},
		{[]byte("123456789"), 0xE3069283},
		{[]byte("The quick brown fox jumps over the lazy dog"), 0x22620404},
		{make([]byte, 1), 0x527D5351},
		{make([]byte, 32), 0x8A9136AA},
		{bytes.Repeat([]byte{0xFF}, 4), 0xFFFFFFFF},
		{bytes.Repeat([]byte{0xFF}, 32), 0x62A8AB43},
		{counting(32, 0, 1), 0x46DD794E},
		{counting(32, 31, 255), 0x113FDB5C},
	} {
		if x := Of(c.b); x != c.want {
			t.Errorf("%d: Of: %#x, not %#x", i, x, c.want)
		}
		if x := More(0, c.b); x != c.want {
			t.Errorf("%d: More of 0: %#x, not %#x", i, x, c.want)
		}
	}
}

// TestMoreOfNone: nothing behind changes no sum.
func TestMoreOfNone(t *testing.T) {
	for _, sum := range []uint32{0, 1, 0x7FFFFFFF, 0x80000000, 0xE3069283, math.MaxUint32 - 1, math.MaxUint32} {
		if x := More(sum, nil); x != sum {
			t.Errorf("%#x, nil: %#x", sum, x)
		}
		if x := More(sum, []byte{}); x != sum {
			t.Errorf("%#x, empty: %#x", sum, x)
		}
	}
}

// TestEveryByte takes each byte alone and each behind each.
func TestEveryByte(t *testing.T) {
	for x := range 256 {
		b := []byte{byte(x)}
		check(t, 0, b)
		check(t, math.MaxUint32, b)
		if Of(b) != library(0, b) {
			t.Errorf("Of %d: %#x", x, Of(b))
		}
		for y := range 256 {
			check(t, 0, []byte{byte(x), byte(y)})
		}
	}
}

// TestEveryBitOfASum begins with sums that have one bit, or all but one.
func TestEveryBitOfASum(t *testing.T) {
	for place := range 32 {
		for _, b := range [][]byte{{0}, {1}, {0x80}, {0xFF}, {0, 0}, []byte("12345"), make([]byte, 128)} {
			check(t, 1<<place, b)
			check(t, ^uint32(1<<place), b)
		}
	}
}

// TestEveryLength takes as many bytes as are in a sector and around it.
func TestEveryLength(t *testing.T) {
	r := rand.New(rand.NewSource(1))
	for many := range 300 {
		b := make([]byte, many)
		check(t, 0, b)
		check(t, 0, bytes.Repeat([]byte{0xFF}, many))
		r.Read(b)
		check(t, 0, b)
		check(t, r.Uint32(), b)
	}
}

// TestInPieces: it is the same sum wherever bytes are cut.
func TestInPieces(t *testing.T) {
	b := counting(128, 3, 7)
	want := library(0, b)
	for i := range len(b) + 1 {
		if x := More(Of(b[:i]), b[i:]); x != want {
			t.Errorf("cut at %d: %#x", i, x)
		}
		for j := i; j <= len(b); j++ {
			if x := More(More(Of(b[:i]), b[i:j]), b[j:]); x != want {
				t.Errorf("cut at %d and %d: %#x", i, j, x)
			}
		}
	}
	sum := uint32(0)
	for i := range b {
		sum = More(sum, b[i:i+1])
		if sum != Of(b[:i+1]) {
			t.Errorf("byte by byte, %d of them: %#x", i+1, sum)
		}
	}
}

// TestOrderAndZeros: what only moves, or only grows by zeros, is seen.
func TestOrderAndZeros(t *testing.T) {
	seen := map[uint32]int{}
	for many := range 1000 {
		sum := Of(make([]byte, many))
		if other, ok := seen[sum]; ok {
			t.Errorf("%d and %d zeros: %#x", other, many, sum)
		}
		seen[sum] = many
	}
	if Of([]byte("ab")) == Of([]byte("ba")) || Of([]byte("\x00a")) == Of([]byte("a\x00")) || Of([]byte("a")) == Of([]byte("\x00a")) {
		t.Error("what moved has the same sum")
	}
}

// TestFaults: in a sector, no fault within 32 bits side by side stays unseen.
func TestFaults(t *testing.T) {
	r := rand.New(rand.NewSource(2))
	b := counting(128, 9, 5)
	sum := Of(b)
	for place := range 8 * len(b) {
		for try := range 4 {
			bad := slices.Clone(b)
			flip(bad, place)
			for i := range 31 {
				if try > 0 && r.Intn(2) == 0 {
					flip(bad, place+1+i)
				}
			}
			if Of(bad) == sum {
				t.Errorf("a fault from bit %d on is not seen", place)
			}
		}
	}
}

// flip turns a bit, if there is such a one.
func flip(b []byte, place int) {
	if place < 8*len(b) {
		b[place/8] ^= 1 << (place % 8)
	}
}

// P1, P2 and the rules that hold everywhere

// TestLong: there is no bound to how many bytes there are.
func TestLong(t *testing.T) {
	b := make([]byte, 1<<22+3)
	rand.New(rand.NewSource(3)).Read(b)
	check(t, 0, b)
	if Of(b) != library(0, b) {
		t.Errorf("Of: %#x", Of(b))
	}
}

// TestArgumentsStay: what is handed in isn't changed, and what is in its spare
// room doesn't count.
func TestArgumentsStay(t *testing.T) {
	room := []byte("123456789 and spare room")
	old := slices.Clone(room)
	if x := Of(room[:9]); x != 0xE3069283 {
		t.Errorf("Of: %#x", x)
	}
	if x := More(Of(room[:4]), room[4:9]); x != 0xE3069283 {
		t.Errorf("More: %#x", x)
	}
	if !bytes.Equal(room, old) {
		t.Errorf("%q", room)
	}
	if x := Of(room[1:9:9]); x != library(0, []byte("23456789")) {
		t.Errorf("without the first: %#x", x)
	}
}

// TestNothingIsKept: the same arguments have the same answers, whatever was
// called in between, and bytes that were written over have another sum.
func TestNothingIsKept(t *testing.T) {
	b := []byte("123456789")
	for range 3 {
		if x := Of(b); x != 0xE3069283 {
			t.Errorf("Of: %#x", x)
		}
		if x := More(7, b); x != library(7, b) {
			t.Errorf("More: %#x", x)
		}
		More(math.MaxUint32, []byte("in between"))
		Of(nil)
	}
	b[0] = 'x'
	if x := Of(b); x != library(0, []byte("x23456789")) {
		t.Errorf("written over: %#x", x)
	}
}
