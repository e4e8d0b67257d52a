package field

import (
	"bytes"
	"math"
	"math/rand"
	"slices"
	"strings"
	"testing"

	"aquifer/api"
)

// greatest is the greatest number of so many bytes.
func greatest(width int) uint64 { return math.MaxUint64 >> (64 - 8*width) }

// wrongWidths are lists with a width that can't be, by what is wrong with them.
func wrongWidths() map[string][]int {
	return map[string][]int{
		"0":               {0},
		"-1":              {-1},
		"9":               {9},
		"least":           {math.MinInt},
		"greatest":        {math.MaxInt},
		"256":             {256},
		"257":             {257},
		"2^32 + 1":        {1<<32 + 1},
		"0 first":         {0, 1},
		"0 last":          {1, 0},
		"0 between":       {1, 0, 1},
		"9 last":          {8, 9},
		"sum 2":           {3, -1},
		"sum 1":           {9, -8},
		"sum goes round":  {math.MaxInt, math.MaxInt, 3},
		"sum goes to one": {math.MinInt, math.MinInt, 1},
	}
}

// two: a number from 0 to 65535 as two bytes.
func two(n int) string { return string([]byte{byte(n % 256), byte(n / 256)}) }

// joined is what Join is to answer, put together by hand.
func joined(texts ...string) string {
	all := two(len(texts))
	for _, text := range texts {
		all += two(len(text)) + text
	}
	return all
}

func asBytes(texts []string) [][]byte {
	var list [][]byte
	for _, text := range texts {
		list = append(list, []byte(text))
	}
	return list
}

func sameTexts(a, b [][]byte) bool { return slices.EqualFunc(a, b, bytes.Equal) }

// P2.1

func TestPutAndGet(t *testing.T) {
	for i, c := range []struct {
		widths []int
		nums   []uint64
		want   []byte
	}{
		{nil, nil, nil},
		{[]int{}, []uint64{}, nil},
		{[]int{2}, []uint64{258}, []byte{2, 1}},
		{[]int{1}, []uint64{0}, []byte{0}},
		{[]int{1}, []uint64{255}, []byte{255}},
		{[]int{2}, []uint64{255}, []byte{255, 0}},
		{[]int{2}, []uint64{256}, []byte{0, 1}},
		{[]int{3}, []uint64{0x010203}, []byte{3, 2, 1}},
		{[]int{8}, []uint64{0}, []byte{0, 0, 0, 0, 0, 0, 0, 0}},
		{[]int{8}, []uint64{1}, []byte{1, 0, 0, 0, 0, 0, 0, 0}},
		{[]int{8}, []uint64{1 << 63}, []byte{0, 0, 0, 0, 0, 0, 0, 0x80}},
		{[]int{8}, []uint64{math.MaxUint64}, []byte{255, 255, 255, 255, 255, 255, 255, 255}},
		{[]int{1, 2, 1}, []uint64{7, 0x0908, 10}, []byte{7, 8, 9, 10}},
		{[]int{2, 1, 2}, []uint64{1, 2, 3}, []byte{1, 0, 2, 3, 0}},
		{
			[]int{1, 2, 3, 4, 5, 6, 7, 8},
			[]uint64{0xa1, 0xb2b1, 0xc3c2c1, 0xd4d3d2d1, 0xe5e4e3e2e1, 0xf6f5f4f3f2f1, 0x17161514131211, 0x2827262524232221},
			[]byte("\xa1\xb1\xb2\xc1\xc2\xc3\xd1\xd2\xd3\xd4\xe1\xe2\xe3\xe4\xe5\xf1\xf2\xf3\xf4\xf5\xf6\x11\x12\x13\x14\x15\x16\x17\x21\x22\x23\x24\x25\x26\x27\x28"),
		},
	} {
		if b, e := Put(c.widths, c.nums...); e != api.OK || !bytes.Equal(b, c.want) {
			t.Errorf("%d: Put: %v %v", i, b, e)
		}
		if nums, e := Get(c.widths, c.want); e != api.OK || !slices.Equal(nums, c.nums) {
			t.Errorf("%d: Get: %v %v", i, nums, e)
		}
	}
}

// TestGreatestNumbers takes, of each width, the greatest number and the one
// above, alone and between others.
func TestGreatestNumbers(t *testing.T) {
	for width := 1; width <= 8; width++ {
		top := greatest(width)
		want := bytes.Repeat([]byte{255}, width)
		if b, e := Put([]int{width}, top); e != api.OK || !bytes.Equal(b, want) {
			t.Errorf("%d: Put of the greatest: %v %v", width, b, e)
		}
		if nums, e := Get([]int{width}, want); e != api.OK || !slices.Equal(nums, []uint64{top}) {
			t.Errorf("%d: Get of the greatest: %v %v", width, nums, e)
		}
		if width == 8 {
			continue
		}
		for _, above := range []uint64{top + 1, top + 2, 1 << 63, math.MaxUint64} {
			for i := range 3 {
				widths, nums := []int{width, width, width}, []uint64{1, 2, 3}
				nums[i] = above
				if b, e := Put(widths, nums...); e != api.ErrField || len(b) != 0 {
					t.Errorf("%d: Put of %d: %v %v", width, nums, b, e)
				}
			}
		}
	}
}

func TestPutOfWrongCounts(t *testing.T) {
	for i, c := range []struct {
		widths []int
		nums   []uint64
	}{
		{nil, []uint64{0}},
		{[]int{1}, nil},
		{[]int{1}, []uint64{1, 2}},
		{[]int{1, 1}, []uint64{1}},
		{[]int{1, 1}, []uint64{1, 2, 3}},
		{[]int{8}, []uint64{1, 2, 3, 4, 5, 6, 7, 8}},
	} {
		if b, e := Put(c.widths, c.nums...); e != api.ErrField || len(b) != 0 {
			t.Errorf("%d: %v %v", i, b, e)
		}
	}
}

func TestWrongWidths(t *testing.T) {
	for what, widths := range wrongWidths() {
		if b, e := Put(widths, make([]uint64, len(widths))...); e != api.ErrField || len(b) != 0 {
			t.Errorf("%s: Put: %v %v", what, b, e)
		}
		for size := range 20 {
			if nums, e := Get(widths, make([]byte, size)); e != api.ErrField || len(nums) != 0 {
				t.Errorf("%s: Get of %d bytes: %v %v", what, size, nums, e)
			}
		}
	}
}

func TestGetOfWrongLengths(t *testing.T) {
	for _, widths := range [][]int{nil, {}, {1}, {2}, {8}, {1, 1}, {3, 8, 1}, {8, 8, 8}} {
		size := 0
		for _, width := range widths {
			size += width
		}
		for many := range 40 {
			nums, e := Get(widths, make([]byte, many))
			if many == size && (e != api.OK || !slices.Equal(nums, make([]uint64, len(widths)))) {
				t.Errorf("%v of %d: %v %v", widths, many, nums, e)
			}
			if many != size && (e != api.ErrField || len(nums) != 0) {
				t.Errorf("%v of %d: %v %v", widths, many, nums, e)
			}
		}
	}
}

// TestNumbersThereAndBack takes widths and bytes as they come: Get's numbers
// are those whose Put the bytes are, whichever these are.
func TestNumbersThereAndBack(t *testing.T) {
	r := rand.New(rand.NewSource(2))
	for range 3000 {
		var widths []int
		var want []uint64
		var b []byte
		for range r.Intn(12) {
			width := 1 + r.Intn(8)
			n := uint64(0)
			digits := make([]byte, width)
			for i := width - 1; i >= 0; i-- { // the highest byte first
				digits[i] = byte(r.Intn(256))
				n = n*256 + uint64(digits[i])
			}
			widths, want, b = append(widths, width), append(want, n), append(b, digits...)
		}
		if nums, e := Get(widths, b); e != api.OK || !slices.Equal(nums, want) {
			t.Fatal("Get", widths, b, nums, e)
		}
		if back, e := Put(widths, want...); e != api.OK || !bytes.Equal(back, b) {
			t.Fatal("Put", widths, want, back, e)
		}
	}
}

// TestManyNumbers: there is no bound to how many they are.
func TestManyNumbers(t *testing.T) {
	const many = 100000
	widths, nums := make([]int, many), make([]uint64, many)
	for i := range many {
		widths[i] = 1 + i%8
		nums[i] = greatest(widths[i]) - uint64(i%200)
	}
	b, e := Put(widths, nums...)
	if e != api.OK || len(b) != many/8*36 {
		t.Fatal(len(b), e)
	}
	if back, e := Get(widths, b); e != api.OK || !slices.Equal(back, nums) {
		t.Error(len(back), e)
	}
}

// P2.2

func TestJoinAndSplit(t *testing.T) {
	for i, c := range []struct {
		texts []string
		want  string
	}{
		{nil, "\x00\x00"},
		{[]string{"ab"}, "\x01\x00\x02\x00ab"},
		{[]string{""}, "\x01\x00\x00\x00"},
		{[]string{"", ""}, "\x02\x00\x00\x00\x00\x00"},
		{[]string{"a", "", "bc"}, "\x03\x00\x01\x00a\x00\x00\x02\x00bc"},
		{[]string{"\x00"}, "\x01\x00\x01\x00\x00"},
		{[]string{"\xff\xff", "\x01\x00"}, "\x02\x00\x02\x00\xff\xff\x02\x00\x01\x00"},
		{[]string{strings.Repeat("x", 255)}, "\x01\x00\xff\x00" + strings.Repeat("x", 255)},
		{[]string{strings.Repeat("x", 256)}, "\x01\x00\x00\x01" + strings.Repeat("x", 256)},
		{[]string{strings.Repeat("x", 0x0201), "y"}, "\x02\x00\x01\x02" + strings.Repeat("x", 0x0201) + "\x01\x00y"},
		{[]string{strings.Repeat("x", 65535)}, "\x01\x00\xff\xff" + strings.Repeat("x", 65535)},
		{make([]string, 256), "\x00\x01" + strings.Repeat("\x00\x00", 256)},
		{make([]string, 65535), "\xff\xff" + strings.Repeat("\x00\x00", 65535)},
	} {
		texts := asBytes(c.texts)
		if b, e := Join(texts...); e != api.OK || string(b) != c.want {
			t.Errorf("%d: Join: %d bytes, %v", i, len(b), e)
		}
		if back, e := Split([]byte(c.want)); e != api.OK || !sameTexts(back, texts) {
			t.Errorf("%d: Split: %d texts, %v", i, len(back), e)
		}
	}
	if b, e := Join(nil, []byte("a"), nil); e != api.OK || string(b) != joined("", "a", "") {
		t.Error(b, e)
	}
}

func TestJoinOfTooMuch(t *testing.T) {
	long := make([]byte, 65536)
	for i, texts := range [][][]byte{
		{long},
		{make([]byte, 65536+1)},
		{make([]byte, 2*65536)}, // whose length's two lowest bytes are 0
		{long, nil},
		{nil, long},
		{[]byte("a"), long, []byte("b")},
		make([][]byte, 65536),
		make([][]byte, 65537),
		make([][]byte, 2*65536), // whose count's two lowest bytes are 0
	} {
		if b, e := Join(texts...); e != api.ErrField || len(b) != 0 {
			t.Errorf("%d: %d bytes, %v", i, len(b), e)
		}
	}
}

func TestSplitOfOthers(t *testing.T) {
	for i, b := range []string{
		"",
		"\x00",
		"\x01",
		"\x00\x00\x00",              // something behind none
		"\x00\x00\x00\x00",          // a text that isn't counted
		"\x01\x00",                  // a text too few
		"\x01\x00\x00",              // half a length
		"\x01\x00\x01\x00",          // no text
		"\x01\x00\x02\x00a",         // half a text
		"\x01\x00\x02\x00abc",       // one byte more
		"\x01\x00\x00\x00\x00",      // one byte behind an empty text
		"\x02\x00\x01\x00a",         // one text of two
		"\x02\x00\x01\x00a\x00",     // half the second's length
		"\x02\x00\x01\x00a\x01\x00", // not the second
		"\x02\x00\x05\x00a\x00\x00", // the first goes too far
		"\x01\x00\xff\xff",
		"\xff\xff",
		"\xff\xff\x00\x00",
		"\x00\x01\x01\x00a", // 256 texts, not 1
		"\x01\x00\x00\x01a", // 256 bytes, not 1
		"\x00\x01\x00\x01a", // the higher byte first
		"\x01\x00\xff\xff" + strings.Repeat("x", 65534),
		"\x01\x00\xff\xff" + strings.Repeat("x", 65536),
		"\xff\xff" + strings.Repeat("\x00\x00", 65534),
		"\xff\xff" + strings.Repeat("\x00\x00", 65536),
	} {
		if texts, e := Split([]byte(b)); e != api.ErrField || len(texts) != 0 {
			t.Errorf("%d: %d texts, %v", i, len(texts), e)
		}
	}
}

// TestSplitOfPieces: no other length than the whole one is a Join.
func TestSplitOfPieces(t *testing.T) {
	whole := []byte(joined("a", "", "bcd", "\x00\x00"))
	for size := range len(whole) {
		if texts, e := Split(whole[:size]); e != api.ErrField || len(texts) != 0 {
			t.Errorf("%d: %v %v", size, texts, e)
		}
	}
	if texts, e := Split(append(slices.Clone(whole), 0)); e != api.ErrField || len(texts) != 0 {
		t.Error(texts, e)
	}
}

// TestSplitOfAllShortBytes takes all bytes of up to six values from 0 to 2:
// what Split takes is the Join of its texts, what it doesn't is no such one's.
func TestSplitOfAllShortBytes(t *testing.T) {
	joins := map[string]bool{}
	var texts []string
	var more func(room int)
	more = func(room int) {
		joins[joined(texts...)] = true
		for size := 0; size+2 <= room; size++ {
			for i := range power(3, size) {
				texts = append(texts, digits(i, size))
				more(room - 2 - size)
				texts = texts[:len(texts)-1]
			}
		}
	}
	more(4)
	for size := range 7 {
		for i := range power(3, size) {
			b := digits(i, size)
			texts, e := Split([]byte(b))
			if (e == api.OK) != joins[b] {
				t.Fatalf("%q: %v", b, e)
			}
			if e != api.OK {
				continue
			}
			if back, e := Join(texts...); e != api.OK || string(back) != b {
				t.Fatalf("%q: %q %v", b, back, e)
			}
		}
	}
}

func power(base, times int) int {
	n := 1
	for range times {
		n *= base
	}
	return n
}

// digits: so many bytes from 0 to 2, the digits of a number.
func digits(n, many int) string {
	var b []byte
	for range many {
		b = append(b, byte(n%3))
		n /= 3
	}
	return string(b)
}

func TestTextsThereAndBack(t *testing.T) {
	r := rand.New(rand.NewSource(3))
	for range 1000 {
		var texts []string
		for range r.Intn(20) {
			b := make([]byte, r.Intn(1<<r.Intn(12)))
			r.Read(b)
			texts = append(texts, string(b))
		}
		b, e := Join(asBytes(texts)...)
		if e != api.OK || string(b) != joined(texts...) {
			t.Fatal("Join", len(texts), len(b), e)
		}
		if back, e := Split(b); e != api.OK || !sameTexts(back, asBytes(texts)) {
			t.Fatal("Split", len(texts), len(back), e)
		}
	}
}

// P1, P2 and the rules that hold everywhere

// noisy: bytes with spare room behind them that isn't zero.
func noisy(text string) []byte {
	room := []byte(text + "spare room")
	return room[:len(text)]
}

// whole: bytes, and what is in their spare room.
func whole(b []byte) string { return string(b[:cap(b)]) }

// TestArgumentsStay: what is handed in isn't changed, spare room included.
func TestArgumentsStay(t *testing.T) {
	widths, nums := []int{1, 2, 8, 9}, []uint64{1, 2, 3, math.MaxUint64}
	b := noisy("\x01\x02\x00\x03\x00\x00\x00\x00\x00\x00\x00")
	x, y := noisy("abc"), noisy("")
	texts := [][]byte{x, y, []byte("behind")}
	all := noisy(joined("abc", "", "d"))
	oldB, oldX, oldY, oldAll := whole(b), whole(x), whole(y), whole(all)
	for _, many := range []int{3, 4} { // with 4 each answers its error
		Put(widths[:many], nums[:many]...)
		Get(widths[:many], b)
	}
	Join(texts[:2]...)
	Split(all)
	Split(all[:5])
	if !slices.Equal(widths, []int{1, 2, 8, 9}) || !slices.Equal(nums, []uint64{1, 2, 3, math.MaxUint64}) {
		t.Error(widths, nums)
	}
	if whole(b) != oldB || whole(x) != oldX || whole(y) != oldY || whole(all) != oldAll {
		t.Error("bytes are changed")
	}
	if len(texts) != 3 || &texts[0][0] != &x[0] || string(texts[2]) != "behind" {
		t.Error("the list of texts is changed")
	}
}

// TestAnswersAreNew: no answer, and no text of one, shares memory with another
// or with an argument, spare room too.
func TestAnswersAreNew(t *testing.T) {
	all := []byte(joined("abc", "", "d", "", "efgh"))
	kept := slices.Clone(all)
	texts, _ := Split(all)
	for i, text := range texts {
		for j := range text[:cap(text)] {
			text[:cap(text)][j] = byte('0' + i)
		}
	}
	for i, text := range texts {
		if strings.Trim(whole(text), string(rune('0'+i))) != "" {
			t.Errorf("%d shares memory: %q", i, whole(text))
		}
	}
	if !bytes.Equal(all, kept) {
		t.Error("Split: the argument is written over")
	}
	text := noisy("abc")
	old := whole(text)
	b, _ := Join(text)
	clear(b[:cap(b)])
	if whole(text) != old {
		t.Error("Join: the argument is written over")
	}
	if again, _ := Join(text); string(again) != joined("abc") {
		t.Error("Join: the next answer is another", again)
	}
	if again, _ := Split(all); !sameTexts(again, asBytes([]string{"abc", "", "d", "", "efgh"})) {
		t.Error("Split: the next answer is another", again)
	}
}

// TestAnswersStay: what is handed in may be written over behind the call.
func TestAnswersStay(t *testing.T) {
	widths, nums, b := []int{2, 1}, []uint64{258, 3}, []byte{2, 1, 3}
	text, all := []byte("ab"), []byte(joined("ab", "c"))
	put, _ := Put(widths, nums...)
	got, _ := Get(widths, b)
	join, _ := Join(text)
	split, _ := Split(all)
	clear(widths)
	clear(nums)
	clear(b)
	clear(text)
	clear(all)
	if !bytes.Equal(put, []byte{2, 1, 3}) || !slices.Equal(got, []uint64{258, 3}) {
		t.Error(put, got)
	}
	if string(join) != joined("ab") || !sameTexts(split, asBytes([]string{"ab", "c"})) {
		t.Error(join, split)
	}
}

// TestAgain: the same arguments have the same answers, whatever was called in
// between.
func TestAgain(t *testing.T) {
	all := []byte(joined("abc", "", "d"))
	ask := func() string {
		put, _ := Put([]int{1, 8}, 9, 10)
		got, _ := Get([]int{8}, put[1:])
		join, _ := Join(put, all)
		split, _ := Split(all)
		return string(put) + "|" + string(join) + "|" + string(bytes.Join(split, []byte(","))) + "|" + two(int(got[0]))
	}
	before := ask()
	for _, widths := range wrongWidths() {
		Put(widths, 1, 2)
		Get(widths, all)
	}
	Split(all[:7])
	Join(make([]byte, 65536))
	if after := ask(); before != after {
		t.Errorf("%q, then %q", before, after)
	}
}
