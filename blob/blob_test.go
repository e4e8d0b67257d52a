package blob

import (
	"bytes"
	"encoding/binary"
	"hash/crc32"
	"math"
	"math/rand"
	"slices"
	"testing"

	"aquifer/api"
	"aquifer/pile"
	"aquifer/slab"
	"aquifer/vdev"
)

const (
	top        = 1<<48 - 1 // MaxStamp
	errSector  = 41
	errPower   = 42
	errPtr     = 51
	errSlab    = 72
	errCorrupt = 91
	errBlob    = 121
)

// odd are lengths that no text has.
func odd() []int {
	return []int{
		0, -1, -127, -128, -129, -1024, -65535, 65536, 65537, 65664, 1 << 17, 1 << 20, 1 << 32, 1<<32 + 300, -1 << 32,
		-1<<32 + 300, math.MaxInt, math.MaxInt - 127, math.MaxInt - 128, math.MinInt, math.MinInt + 300,
	}
}

// edges are lengths about which a level has one sector, or one node, more or less.
func edges() []int {
	var out []int
	for _, n := range []int{1, 128, 256, 896, 1024, 1152, 2048, 4096, 8192, 9216, 16384, 32768, 57344, 65536} {
		for _, d := range []int{-129, -128, -127, -2, -1, 0, 1, 2, 127, 128, 129} {
			if n+d >= 1 && n+d <= 65535 {
				out = append(out, n+d)
			}
		}
	}
	slices.Sort(out)
	return slices.Compact(out)
}

// fresh is a pile of so many sectors.
func fresh(many int, stamp uint64) *pile.Pile {
	return pile.New(vdev.New(many), slab.New(many), stamp, 0)
}

// some is some bytes of a length, each another one than its neighbour, none of
// them zero.
func some(many, first int) []byte {
	b := make([]byte, many)
	for i := range b {
		b[i] = byte(1 + (first+7*i+i/128)%255)
	}
	return b
}

// pointer is the pointer to a sector with these bytes, by the library's sum.
func pointer(at int, birth uint64, s api.Sector) api.Ptr {
	return api.Ptr{At: at, Birth: birth, Sum: crc32.Checksum(s[:], crc32.MakeTable(crc32.Castagnoli))}
}

// nodeOf is pointers as a sector, with zeros behind, by the library.
func nodeOf(l ...api.Ptr) api.Sector {
	var s api.Sector
	for i, q := range l {
		binary.LittleEndian.PutUint32(s[16*i:], uint32(q.At))
		binary.LittleEndian.PutUint64(s[16*i+4:], q.Birth)
		binary.LittleEndian.PutUint32(s[16*i+12:], q.Sum)
	}
	return s
}

// put writes a sector to a device by hand, pending.
func put(t *testing.T, p *pile.Pile, at int, birth uint64, s api.Sector) api.Ptr {
	t.Helper()
	if e := p.Dev().Write(at, s); e != 0 {
		t.Fatal(e)
	}
	return pointer(at, birth, s)
}

// laid is what a text's sectors are, level by level, as they are thought of:
// each level's sectors, and the pointers to them at these places.
func laid(b []byte, at []int, birth uint64) (sectors []api.Sector, levels [][]api.Ptr) {
	var level []api.Ptr
	add := func(s api.Sector) {
		level = append(level, pointer(at[len(sectors)], birth, s))
		sectors = append(sectors, s)
	}
	for len(b) > 0 {
		var s api.Sector
		b = b[copy(s[:], b):]
		add(s)
	}
	levels = append(levels, level)
	for len(level) > 1 {
		below := level
		level = nil
		for len(below) > 0 {
			k := min(8, len(below))
			add(nodeOf(below[:k]...))
			below = below[k:]
		}
		levels = append(levels, level)
	}
	return sectors, levels
}

// told is the pointers to a text's sectors as Load tells them.
func told(levels [][]api.Ptr) []api.Ptr {
	var out []api.Ptr
	for _, level := range slices.Backward(levels) {
		out = append(out, level...)
	}
	return out
}

// places are so many sectors, taken, in an order of their own.
func places(t *testing.T, p *pile.Pile, many int, r *rand.Rand) []int {
	t.Helper()
	at, e := p.Map().Many(many)
	if e != 0 {
		t.Fatal(e)
	}
	r.Shuffle(len(at), func(i, j int) { at[i], at[j] = at[j], at[i] })
	return at
}

// picture is all that a pile, its map and its device tell, but its Ops.
type picture struct {
	stamp, base    uint64
	taken, waiting []api.Span
	count, pending int
	dead           bool
	sectors        []api.Sector
}

func pictureOf(p *pile.Pile) picture {
	d, m := p.Dev(), p.Map()
	out := picture{
		stamp: p.Stamp(), base: p.Base(), taken: m.Taken(), waiting: m.Waiting(), count: m.Count(),
		pending: d.Pending(), dead: d.Dead(),
	}
	for i := range d.Len() {
		s, _ := d.Read(i)
		out.sectors = append(out.sectors, d.Stable(i), s)
	}
	return out
}

func same(a, b picture) bool {
	return a.stamp == b.stamp && a.base == b.base && slices.Equal(a.taken, b.taken) && slices.Equal(a.waiting, b.waiting) &&
		a.count == b.count && a.pending == b.pending && a.dead == b.dead && slices.Equal(a.sectors, b.sectors)
}

// unchanged: a call leaves all as it was.
func unchanged(t *testing.T, what string, p *pile.Pile, call func()) {
	t.Helper()
	was := pictureOf(p)
	call()
	if !same(was, pictureOf(p)) {
		t.Fatalf("%s: changed something", what)
	}
}

// save is a Save that must go well.
func save(t *testing.T, p *pile.Pile, b []byte, at []int) api.Ptr {
	t.Helper()
	q, e := Save(p, b, at)
	if e != 0 {
		t.Fatalf("Save of %d bytes: %v", len(b), e)
	}
	return q
}

// refuses is a Save that must answer an error, and write so many sectors.
func refuses(t *testing.T, p *pile.Pile, b []byte, at []int, errno api.Errno, written int) {
	t.Helper()
	was := p.Dev().Pending()
	if q, e := Save(p, b, at); q != (api.Ptr{}) || e != errno {
		t.Fatalf("Save of %d bytes at %v: %v, %v, not %v", len(b), at, q, e, errno)
	}
	if many := p.Dev().Pending() - was; many != written {
		t.Fatalf("Save of %d bytes at %v: %d written, not %d", len(b), at, many, written)
	}
}

// loads holds what Load answers against what it must.
func loads(t *testing.T, p *pile.Pile, root api.Ptr, b []byte, l []api.Ptr) {
	t.Helper()
	unchanged(t, "Load", p, func() {
		if got, all, e := Load(p, root, len(b)); !bytes.Equal(got, b) || !slices.Equal(all, l) || e != 0 {
			t.Fatalf("Load of %d bytes: %v, %v, %v, not %v, %v", len(b), got, all, e, b, l)
		}
	})
}

// fails is a Load that must answer an error.
func fails(t *testing.T, what string, p *pile.Pile, root api.Ptr, n int, errno api.Errno) {
	t.Helper()
	unchanged(t, "Load", p, func() {
		if b, l, e := Load(p, root, n); len(b) != 0 || len(l) != 0 || e != errno {
			t.Fatalf("%s: Load of %d bytes under %v: %v, %v, %v, not %v", what, n, root, b, l, e, errno)
		}
	})
}

// dark takes a device's power away.
func dark(p *pile.Pile) {
	p.Dev().Break(0)
	p.Dev().Flush()
}

// P12.1

func TestNeed(t *testing.T) {
	for _, c := range [][2]int{
		{300, 4}, {1, 1}, {2, 1}, {127, 1}, {128, 1}, {129, 3}, {256, 3}, {257, 4}, {1023, 9}, {1024, 9}, {1025, 12}, {2048, 19},
		{2049, 17 + 3 + 1}, {8192, 73}, {8193, 65 + 9 + 2 + 1}, {9216, 72 + 9 + 2 + 1}, {9217, 73 + 10 + 2 + 1},
		{65535, 512 + 64 + 8 + 1}, {65409, 585}, {65408, 511 + 64 + 8 + 1}, {57344, 448 + 56 + 7 + 1}, {57345, 449 + 57 + 8 + 1},
	} {
		if got := Need(c[0]); got != c[1] {
			t.Errorf("Need(%d): %d, not %d", c[0], got, c[1])
		}
	}
}

func TestNeedOfNone(t *testing.T) {
	for _, n := range odd() {
		if got := Need(n); got != 0 {
			t.Errorf("Need(%d): %d", n, got)
		}
	}
}

// TestNeedOfEach holds every length against levels that are counted otherwise:
// a level has one sector for each that begins in it.
func TestNeedOfEach(t *testing.T) {
	for n := 1; n <= 65535; n++ {
		want, each := 0, 128
		for {
			many := 1 + (n-1)/each
			want += many
			if many == 1 {
				break
			}
			each *= 8
		}
		if got := Need(n); got != want {
			t.Fatalf("Need(%d): %d, not %d", n, got, want)
		}
	}
}

// P12.2

// TestSaveThree lays the chapter's example by hand.
func TestSaveThree(t *testing.T) {
	p := fresh(64, 7)
	for _, i := range []int{50, 9, 31, 12} {
		p.Map().Take(i)
	}
	b := some(300, 3)
	q := save(t, p, b, []int{50, 9, 31, 12})
	first, second := api.Sector(b), api.Sector(b[128:])
	var third api.Sector
	copy(third[:], b[256:])
	root := nodeOf(pointer(50, 7, first), pointer(9, 7, second), pointer(31, 7, third))
	if q != pointer(12, 7, root) {
		t.Fatal(q)
	}
	for i, want := range map[int]api.Sector{50: first, 9: second, 31: third, 12: root, 4: {}, 13: {}} {
		if s, e := p.Dev().Read(i); s != want || e != 0 {
			t.Errorf("sector %d: %v, %v", i, s, e)
		}
	}
	if p.Dev().Pending() != 4 || p.Map().Count() != 56 || p.Stamp() != 7 {
		t.Error(p.Dev().Pending(), p.Map().Count(), p.Stamp())
	}
}

// TestSaveOne: what has one sector has no node, and its text may be short.
func TestSaveOne(t *testing.T) {
	for _, n := range []int{1, 2, 127, 128} {
		p := fresh(64, 7)
		p.Map().Take(40)
		b := some(n, 3)
		var s api.Sector
		copy(s[:], b)
		p.Dev().Write(40, api.Sector(some(128, 9)))
		if q := save(t, p, b, []int{40}); q != pointer(40, 7, s) {
			t.Fatal(q)
		}
		if got, _ := p.Dev().Read(40); got != s {
			t.Fatal(got)
		}
	}
}

// TestSaveOrder: level by level, from the first one on; of each as many are
// there as writes were kept.
func TestSaveOrder(t *testing.T) {
	r := rand.New(rand.NewSource(3))
	for _, n := range []int{1, 128, 129, 1025, 2048, 8193, 65535} {
		for range 8 {
			p := fresh(1024, 5)
			b := some(n, r.Intn(256))
			at := places(t, p, Need(n), r)
			save(t, p, b, at)
			kept := r.Intn(len(at) + 1)
			p.Dev().Crash(slices.Repeat([]bool{true}, kept)...)
			sectors, _ := laid(b, at, 5)
			for i, s := range sectors {
				if i >= kept {
					s = api.Sector{}
				}
				if p.Dev().Stable(at[i]) != s {
					t.Fatalf("%d bytes, %d kept: sector %d", n, kept, i)
				}
			}
		}
	}
}

func TestSaveErrors(t *testing.T) {
	p := fresh(1024, 5)
	at, _ := p.Map().Many(1020)
	for _, n := range []int{0, 65536, 65537, 70000} {
		for _, many := range []int{0, 1, 584, 585, 586, 1020} {
			refuses(t, p, make([]byte, n), at[:many], errBlob, 0)
		}
	}
	refuses(t, p, nil, nil, errBlob, 0)
	refuses(t, p, []byte{}, []int{}, errBlob, 0)
	for _, n := range []int{1, 128, 129, 300, 1024, 1025, 8192, 8193, 65535} {
		need := Need(n)
		for _, many := range []int{0, need - 2, need - 1, need + 1, need + 2, 2 * need, 1020} {
			if many >= 0 && many <= 1020 {
				refuses(t, p, some(n, 1), at[:many], errBlob, 0)
			}
		}
	}
}

// TestSaveNotTaken: the first sector that isn't taken ends it, whichever that is.
func TestSaveNotTaken(t *testing.T) {
	wrong := append(odd(), 0, 3, 4, 60, 61, 64, 100, 1023, 1024)
	for _, n := range []int{1, 300, 1025, 1500} {
		for i := range Need(n) {
			for _, to := range wrong {
				p := fresh(64, 5)
				at, _ := p.Map().Many(50)
				p.Map().Free(4)
				p.Map().Later(60)
				p.Map().Free(61)
				at = slices.DeleteFunc(at, func(i int) bool { return i == 4 || i >= 60 })[:Need(n)]
				at[i] = to
				refuses(t, p, some(n, 1), at, errSlab, i)
			}
		}
	}
}

// TestSaveFirstError: of two errors the one that comes first.
func TestSaveFirstError(t *testing.T) {
	for i := range 4 {
		for k := range 4 {
			p := pile.New(vdev.New(20), slab.New(64), 5, 0)
			for i := 4; i < 64; i++ {
				p.Map().Take(i)
			}
			at := []int{4, 5, 6, 7}
			at[k] = 30 // taken, and not on the device
			at[i] = 3
			if k < i {
				refuses(t, p, some(300, 1), at, errSector, k)
			} else {
				refuses(t, p, some(300, 1), at, errSlab, i)
			}
		}
	}
}

// TestSaveNoPower: what was written ahead of the power's end is, and no more.
func TestSaveNoPower(t *testing.T) {
	for _, n := range []int{1, 128, 300, 1025, 8193} {
		for left := range Need(n) {
			p := fresh(128, 5)
			at, _ := p.Map().Many(Need(n))
			p.Dev().Break(left)
			refuses(t, p, some(n, 1), at, errPower, left)
			refuses(t, p, some(n, 1), at, errPower, 0)
			refuses(t, p, some(n, 1), at[1:], errBlob, 0)
		}
		p := fresh(128, 5)
		at, _ := p.Map().Many(Need(n))
		p.Dev().Break(Need(n))
		save(t, p, some(n, 1), at)
	}
}

// TestSaveNoSector: a device that is smaller than its map.
func TestSaveNoSector(t *testing.T) {
	for i := range 4 {
		p := pile.New(vdev.New(20), slab.New(64), 5, 0)
		for i := 4; i < 64; i++ {
			p.Map().Take(i)
		}
		at := []int{4, 5, 6, 7}
		at[i] = 20
		refuses(t, p, some(300, 1), at, errSector, i)
	}
}

// TestSaveNoNode: a pointer that was born at no stamp can stand in no node.
func TestSaveNoNode(t *testing.T) {
	for _, stamp := range []uint64{0, top + 1, math.MaxUint64} {
		p := fresh(128, stamp)
		at, _ := p.Map().Many(Need(1500))
		refuses(t, p, some(1500, 1), at, errPtr, 12)
		if q := save(t, p, some(128, 1), at[:1]); q.Birth != stamp {
			t.Error(q)
		}
	}
}

// TestSaveTwice: sectors may come twice; the last write is there.
func TestSaveTwice(t *testing.T) {
	p := fresh(64, 5)
	p.Map().Take(9)
	b := some(300, 1)
	_, levels := laid(b, []int{9, 9, 9, 9}, 5)
	if q := save(t, p, b, []int{9, 9, 9, 9}); q != levels[1][0] {
		t.Fatal(q)
	}
	fails(t, "one sector", p, levels[1][0], 300, errCorrupt)
}

// TestSaveLoad: texts about the edges and others, at sectors in any order.
func TestSaveLoad(t *testing.T) {
	r := rand.New(rand.NewSource(1))
	lengths := edges()
	for range 60 {
		lengths = append(lengths, 1+r.Intn(65535))
	}
	for _, n := range lengths {
		p := fresh(1024, 1+uint64(r.Int63n(top)))
		b := some(n, r.Intn(256))
		if r.Intn(3) == 0 {
			r.Read(b)
		}
		at := places(t, p, Need(n), r)
		sectors, levels := laid(b, at, p.Stamp())
		if q := save(t, p, b, at); q != levels[len(levels)-1][0] {
			t.Fatalf("%d bytes: %v", n, q)
		}
		for i, s := range sectors {
			if got, _ := p.Dev().Read(at[i]); got != s {
				t.Fatalf("%d bytes: sector %d: %v", n, i, got)
			}
		}
		if p.Dev().Pending() != len(at) || len(sectors) != len(at) {
			t.Fatalf("%d bytes: %d written", n, p.Dev().Pending())
		}
		all := told(levels)
		got, l, e := Load(p, all[0], n)
		if !bytes.Equal(got, b) || !slices.Equal(l, all) || e != 0 {
			t.Fatalf("%d bytes: %v", n, e)
		}
	}
}

// P12.3

// TestLoadThree loads a text that was laid by hand, with pointers of many births.
func TestLoadThree(t *testing.T) {
	p := fresh(64, 7)
	b := some(300, 3)
	var last api.Sector
	copy(last[:], b[256:])
	l := []api.Ptr{put(t, p, 63, 2, api.Sector(b)), put(t, p, 4, top, api.Sector(b[128:])), put(t, p, 20, 1, last)}
	root := put(t, p, 21, 3, nodeOf(l...))
	loads(t, p, root, b, append([]api.Ptr{root}, l...))
}

// TestLoadOne: what has one sector has no node.
func TestLoadOne(t *testing.T) {
	p := fresh(64, 7)
	for _, n := range []int{1, 2, 127, 128} {
		var s api.Sector
		copy(s[:], some(n, 3))
		root := put(t, p, 63, 2, s)
		loads(t, p, root, some(n, 3), []api.Ptr{root})
	}
	// Bytes that look like a node are a text as well.
	s := nodeOf(api.Ptr{At: 5, Birth: 1}, api.Ptr{At: 6, Birth: 1})
	root := put(t, p, 62, 2, s)
	loads(t, p, root, s[:32], []api.Ptr{root})
	fails(t, "bytes behind", p, root, 20, errCorrupt)
	fails(t, "pointers to other bytes", p, root, 129, errCorrupt)
}

// TestLoadZeros: a text may end with zeros, and be no more than them.
func TestLoadZeros(t *testing.T) {
	p := fresh(64, 7)
	root := put(t, p, 63, 2, api.Sector{5})
	for n := 1; n <= 128; n++ {
		b := make([]byte, n)
		b[0] = 5
		loads(t, p, root, b, []api.Ptr{root})
	}
	root = put(t, p, 62, 2, api.Sector{})
	loads(t, p, root, make([]byte, 77), []api.Ptr{root})
}

// TestLoadSharedSectors: a sector may be reached more than once.
func TestLoadSharedSectors(t *testing.T) {
	p := fresh(64, 7)
	s := api.Sector(some(128, 5))
	q := put(t, p, 30, 2, s)
	eight := slices.Repeat([]api.Ptr{q}, 8)
	second := put(t, p, 31, 2, nodeOf(eight...))
	root := put(t, p, 32, 2, nodeOf(second, second))
	loads(t, p, root, bytes.Repeat(s[:], 16), append([]api.Ptr{root, second, second}, slices.Repeat(eight, 2)...))
}

func TestLoadErrors(t *testing.T) {
	p := fresh(128, 7)
	at, _ := p.Map().Many(12)
	root := save(t, p, some(1025, 1), at)
	for _, n := range odd() {
		fails(t, "length", p, root, n, errBlob)
		fails(t, "length and hole", p, api.Ptr{}, n, errBlob)
	}
	for _, n := range []int{1, 128, 129, 1025, 65535} {
		fails(t, "hole", p, api.Ptr{}, n, errBlob)
	}
	dark(p)
	for _, n := range odd() {
		fails(t, "length, no power", p, root, n, errBlob)
	}
	fails(t, "hole, no power", p, api.Ptr{}, 1025, errBlob)
	fails(t, "no power", p, root, 1025, errPower)
	fails(t, "no power", p, root, 1, errPower)
}

// TestLoadNoSuchRoot: roots that lead nowhere, or to something else.
func TestLoadNoSuchRoot(t *testing.T) {
	p := fresh(64, 7)
	for i := range 64 {
		put(t, p, i, 7, api.Sector{byte(i)})
	}
	for _, n := range []int{1, 128, 300, 1025} {
		for _, at := range append(odd(), 64, 1023, 1024) {
			if at < 0 || at >= 64 {
				fails(t, "no sector", p, api.Ptr{At: at, Birth: 1, Sum: 5}, n, errCorrupt)
			}
		}
		fails(t, "sum alone", p, api.Ptr{Sum: 1}, n, errCorrupt)
		fails(t, "birth alone", p, api.Ptr{Birth: 1}, n, errCorrupt)
		fails(t, "other bytes", p, api.Ptr{At: 9, Birth: 1, Sum: pointer(9, 1, api.Sector{9}).Sum + 1}, n, errCorrupt)
	}
	// Where it was born, and whether it could be, isn't asked of a root.
	root := pointer(3, 0, api.Sector{3})
	loads(t, p, root, []byte{3}, []api.Ptr{root})
}

// plain reads a text part by part, as it is thought of: under a pointer there
// are so many bytes, in parts of so many bytes each.
func plain(t *testing.T, p *pile.Pile, q api.Ptr, n, each int) ([]byte, bool) {
	t.Helper()
	s, e := p.Dev().Read(q.At)
	if e != 0 || pointer(q.At, q.Birth, s) != q {
		return nil, false
	}
	if each < 128 {
		if len(bytes.TrimRight(s[n:], "\x00")) > 0 {
			return nil, false
		}
		return s[:n], true
	}
	var out []byte
	for i := range 8 {
		b := s[16*i : 16*i+16]
		if i*each >= n {
			if slices.Max(b) > 0 {
				return nil, false
			}
			continue
		}
		q := api.Ptr{
			At: int(binary.LittleEndian.Uint32(b)), Birth: binary.LittleEndian.Uint64(b[4:]), Sum: binary.LittleEndian.Uint32(b[12:]),
		}
		part, ok := plain(t, p, q, min(n-i*each, each), each/8)
		if !ok || q.At < 4 || q.At > 1023 || q.Birth < 1 || q.Birth > top {
			return nil, false
		}
		out = append(out, part...)
	}
	return out, true
}

// TestLoadOtherLength: a text is of its own length, and of none else but where
// zeros are its end, or where its nodes' bytes go for a text.
func TestLoadOtherLength(t *testing.T) {
	for _, n := range []int{1, 127, 128, 129, 300, 1024, 1025, 8192, 8193} {
		p := fresh(128, 7)
		at, _ := p.Map().Many(Need(n))
		root := save(t, p, some(n, 1), at)
		for _, other := range append(edges(), n-1, n-2, n+1, n+2) {
			if other < 1 {
				continue
			}
			each := 16
			for 8*each < other {
				each *= 8
			}
			want, ok := plain(t, p, root, other, each)
			if ok != (other >= n && other <= (n+127)/128*128) && (n <= 128 || other > n) {
				t.Fatalf("%d bytes as %d: %v", n, other, ok)
			}
			if b, l, e := Load(p, root, other); !bytes.Equal(b, want) || (e == 0) != ok || e != 0 && (e != errCorrupt || len(b)+len(l) > 0) {
				t.Fatalf("%d bytes as %d: %v, %v, not %v", n, other, b, e, want)
			}
		}
	}
}

// TestLoadBehind: anything but zeros behind the text.
func TestLoadBehind(t *testing.T) {
	for _, n := range []int{1, 100, 127, 257, 300, 383} {
		for i := n % 128; i < 128; i++ {
			p := fresh(64, 7)
			b := some(n, 3)
			var l []api.Ptr
			for k := 0; k < n; k += 128 {
				var s api.Sector
				copy(s[:], b[k:])
				if k+128 > n {
					s[i] = byte(1 << (i % 8))
				}
				l = append(l, put(t, p, 10+k/128, 7, s))
			}
			root := l[0]
			if len(l) > 1 {
				root = put(t, p, 9, 7, nodeOf(l...))
			}
			fails(t, "something behind", p, root, n, errCorrupt)
		}
	}
}

// TestLoadPointers: a node with more or fewer pointers than its level wants, or
// with a hole among them.
func TestLoadPointers(t *testing.T) {
	p := fresh(64, 7)
	s := api.Sector(some(128, 5))
	q := put(t, p, 30, 2, s)
	zero := put(t, p, 29, 2, api.Sector{})
	for want := 2; want <= 8; want++ {
		for mask := range 256 {
			var l [8]api.Ptr
			for i := range l {
				if mask>>i&1 == 1 {
					l[i] = q
				}
			}
			root := put(t, p, 31, 7, nodeOf(l[:]...))
			if mask == 1<<want-1 {
				loads(t, p, root, bytes.Repeat(s[:], want), append([]api.Ptr{root}, l[:want]...))
			} else {
				fails(t, "other pointers", p, root, 128*want, errCorrupt)
			}
		}
	}
	// Not even where a block of zeros would do as well as a hole.
	root := put(t, p, 31, 7, nodeOf(q, zero, q))
	loads(t, p, root, slices.Concat(s[:], make([]byte, 128), s[:]), []api.Ptr{root, q, zero, q})
	fails(t, "hole for zeros", p, put(t, p, 31, 7, nodeOf(q, api.Ptr{}, q)), 384, errCorrupt)
	fails(t, "holes alone", p, put(t, p, 31, 7, api.Sector{}), 384, errCorrupt)
}

// TestLoadDeepPointers: so in a level's first and last nodes, and between.
func TestLoadDeepPointers(t *testing.T) {
	const n = 128 * 77 // 77, 10, 2, 1
	for level := 1; level <= 3; level++ {
		for k := range []int{77, 10, 2, 1}[level] {
			for _, change := range []int{-1, 1} {
				p := fresh(256, 7)
				at := make([]int, Need(n))
				for i := range at {
					at[i] = 100 + i
				}
				b := some(n, 3)
				root, ok := spoilt(t, p, b, at, level, k, change)
				if ok {
					fails(t, "deep pointers", p, root, n, errCorrupt)
				} else {
					loadsDeep(t, p, root, b)
				}
			}
		}
	}
}

// spoilt lays a text by hand, but with a pointer more or fewer in node k of a
// level; false, if that node is full and can't have one more.
func spoilt(t *testing.T, p *pile.Pile, b []byte, at []int, spoil, which, change int) (api.Ptr, bool) {
	t.Helper()
	next, changed := 0, false
	add := func(s api.Sector) api.Ptr {
		next++
		return put(t, p, at[next-1], 7, s)
	}
	var l []api.Ptr
	for part := range slices.Chunk(b, 128) {
		l = append(l, add(api.Sector(part)))
	}
	for level := 1; len(l) > 1; level++ {
		var up []api.Ptr
		for part := range slices.Chunk(l, 8) {
			part = slices.Clone(part)
			if level == spoil && len(up) == which {
				if change < 0 {
					part, changed = part[:len(part)-1], true
				} else if len(part) < 8 {
					part, changed = append(part, part[0]), true
				}
			}
			up = append(up, add(nodeOf(part...)))
		}
		l = up
	}
	return l[0], changed
}

func loadsDeep(t *testing.T, p *pile.Pile, root api.Ptr, b []byte) {
	t.Helper()
	if got, l, e := Load(p, root, len(b)); !bytes.Equal(got, b) || len(l) != Need(len(b)) || e != 0 {
		t.Fatal(e)
	}
}

// TestLoadNoNode: a sector that is what was put, but no node.
func TestLoadNoNode(t *testing.T) {
	p := fresh(64, 7)
	q := put(t, p, 30, 2, api.Sector(some(128, 5)))
	for i := range 8 {
		for _, wrong := range []api.Ptr{
			{At: 3, Birth: 1}, {At: 1024, Birth: 1}, {At: 4}, {Birth: 1}, {Sum: 1}, {At: 4, Birth: top + 1}, {At: 1 << 31, Birth: 1},
		} {
			l := []api.Ptr{q, q, q, q, q, q, q, q}
			l[i] = wrong
			fails(t, "no node", p, put(t, p, 31, 7, nodeOf(l...)), 1024, errCorrupt)
			if i > 1 {
				l = []api.Ptr{q, q, {}, {}, {}, {}, {}, {}}
				l[i] = wrong
				fails(t, "no node behind", p, put(t, p, 31, 7, nodeOf(l...)), 256, errCorrupt)
			}
		}
	}
}

// TestLoadRotten: whichever sector rots, there is no text.
func TestLoadRotten(t *testing.T) {
	r := rand.New(rand.NewSource(5))
	for _, n := range []int{1, 128, 300, 1024, 1025, 8193} {
		p := fresh(128, 7)
		at := places(t, p, Need(n), r)
		b := some(n, 1)
		root := save(t, p, b, at)
		for _, i := range at {
			was, _ := p.Dev().Read(i)
			s := was
			s[r.Intn(128)] ^= 1 << r.Intn(8)
			p.Dev().Rot(i, s)
			fails(t, "rotten", p, root, n, errCorrupt)
			p.Dev().Rot(i, was)
		}
		loadsDeep(t, p, root, b)
	}
}

// TestLoadReads: each sector is read once.
func TestLoadReads(t *testing.T) {
	for _, n := range []int{1, 300, 1025, 65535} {
		p := fresh(1024, 7)
		at, _ := p.Map().Many(Need(n))
		root := save(t, p, some(n, 1), at)
		was := p.Dev().Ops()
		loadsDeep(t, p, root, some(n, 1))
		if many := p.Dev().Ops() - was; many != len(at) {
			t.Errorf("%d bytes: %d reads", n, many)
		}
	}
}

// TestTwoTexts: texts on one device don't touch each other.
func TestTwoTexts(t *testing.T) {
	r := rand.New(rand.NewSource(6))
	p := fresh(1024, 1)
	type kept struct {
		root api.Ptr
		b    []byte
	}
	var all []kept
	for range 30 {
		b := some(1+r.Intn(3000), r.Intn(256))
		all = append(all, kept{save(t, p, b, places(t, p, Need(len(b)), r)), b})
		p.Next()
	}
	for i, x := range all {
		if x.root.Birth != uint64(i+1) {
			t.Fatal(x.root)
		}
		loadsDeep(t, p, x.root, x.b)
	}
}

// P1, P2 and the rules that hold everywhere

// TestAllArguments: each call ends and none panics.
func TestAllArguments(t *testing.T) {
	nums := []uint64{0, 1, 5, top, top + 1, math.MaxInt64, math.MaxInt64 + 1, math.MaxUint64}
	lengths := append(odd(), 1, 128, 129, 1025, 9000, 65535)
	for _, stamp := range nums {
		p := fresh(128, stamp)
		at, _ := p.Map().Many(100)
		s := nodeOf(api.Ptr{At: 4, Birth: 1}, api.Ptr{At: 5, Birth: top, Sum: 9}, api.Ptr{At: 1023, Birth: 9})
		for _, i := range at {
			p.Dev().Write(i, s)
		}
		for _, i := range append(odd(), 0, 3, 4, 127) {
			for _, birth := range nums {
				for _, n := range lengths {
					Load(p, api.Ptr{At: i, Birth: birth, Sum: math.MaxUint32}, n)
					Load(p, pointer(i, birth, s), n)
				}
			}
			Save(p, some(300, 1), []int{i, i, i, i})
			Save(p, some(300, 1), []int{4, 5, 6, i})
		}
		for _, n := range lengths {
			Need(n)
			if n >= 0 && n <= 70000 {
				for many := range 100 {
					Save(p, make([]byte, n), at[:many])
				}
			}
		}
	}
}

func TestArgumentsUnchanged(t *testing.T) {
	for _, n := range []int{1, 100, 128, 129, 300, 1025} {
		for _, left := range []int{0, 1, Need(n) - 1, 100} {
			p := fresh(64, 5)
			b, at := some(1500, 9), make([]int, 60)
			for i := range at {
				at[i] = 4 + i
				p.Map().Take(4 + i)
			}
			wasB, wasAt := bytes.Clone(b), slices.Clone(at)
			p.Dev().Break(left)
			Save(p, b[:n], at[:Need(n)])
			if !bytes.Equal(b, wasB) || !slices.Equal(at, wasAt) {
				t.Fatalf("%d bytes, %d left: changed", n, left)
			}
		}
	}
}

func TestNothingKept(t *testing.T) {
	for _, n := range []int{1, 100, 128, 129, 300, 1025} {
		p := fresh(64, 5)
		b, want := some(n, 9), some(n, 9)
		at, _ := p.Map().Many(Need(n))
		_, levels := laid(b, at, 5)
		root := save(t, p, b, at)
		clear(b)
		clear(at)
		for range 3 {
			loads(t, p, root, want, told(levels))
			got, l, _ := Load(p, root, n)
			if cap(got) != n {
				t.Errorf("%d bytes: room for %d", n, cap(got))
			}
			clear(got[:cap(got)])
			clear(l[:cap(l)])
		}
	}
}
