package tree

import (
	"bytes"
	"encoding/binary"
	"hash/crc32"
	"math"
	"math/rand"
	"slices"
	"testing"

	"aquifer/api"
	"aquifer/pile"
	"aquifer/slab"
	"aquifer/vdev"
)

const (
	top        = 1<<48 - 1 // MaxStamp
	errSector  = 41
	errPower   = 42
	errSpace   = 71
	errCorrupt = 91
	errBlock   = 92
	errIndex   = 111
)

// odd are numbers that no block has.
func odd() []int {
	return []int{
		-1, -8, -64, 64, 65, 72, 127, 128, 511, 512, 1 << 16, 1 << 32, 1<<32 + 5, -1 << 32, -1<<32 + 5,
		math.MinInt, math.MinInt + 5, math.MaxInt, math.MaxInt - 63,
	}
}

// fresh is a pile of so many sectors.
func fresh(many int, stamp, base uint64) *pile.Pile {
	return pile.New(vdev.New(many), slab.New(many), stamp, base)
}

// text is some bytes of a length, each another one than its neighbour.
func text(many, first int) []byte {
	b := make([]byte, many)
	for i := range b {
		b[i] = byte(first + 7*i)
	}
	return b
}

// sector is bytes with zeros behind.
func sector(b []byte) api.Sector {
	var s api.Sector
	copy(s[:], b)
	return s
}

// pointer is the pointer to a sector with these bytes, by the library's sum.
func pointer(at int, birth uint64, s api.Sector) api.Ptr {
	return api.Ptr{At: at, Birth: birth, Sum: crc32.Checksum(s[:], crc32.MakeTable(crc32.Castagnoli))}
}

// laid is eight pointers as a sector, by the library.
func laid(l [8]api.Ptr) api.Sector {
	var b []byte
	for _, q := range l {
		b = binary.LittleEndian.AppendUint32(b, uint32(q.At))
		b = binary.LittleEndian.AppendUint64(b, q.Birth)
		b = binary.LittleEndian.AppendUint32(b, q.Sum)
	}
	return api.Sector(b)
}

// said is what a sector says as eight pointers, by the library.
func said(s api.Sector) [8]api.Ptr {
	var l [8]api.Ptr
	for i := range l {
		b := s[16*i:]
		l[i] = api.Ptr{
			At:    int(binary.LittleEndian.Uint32(b)),
			Birth: binary.LittleEndian.Uint64(b[4:]),
			Sum:   binary.LittleEndian.Uint32(b[12:]),
		}
	}
	return l
}

// place is a Put that must go well.
func place(t *testing.T, p *pile.Pile, s api.Sector) api.Ptr {
	t.Helper()
	q, e := p.Put(s[:])
	if e != 0 {
		t.Fatalf("Put: %v", e)
	}
	return q
}

// raise puts a tree's nodes by hand, over the pointers to its blocks; where a
// node would have but holes there is a hole.
func raise(t *testing.T, p *pile.Pile, blocks [64]api.Ptr) api.Ptr {
	t.Helper()
	var first [8]api.Ptr
	for i := range first {
		if second := [8]api.Ptr(blocks[8*i:]); second != [8]api.Ptr{} {
			first[i] = place(t, p, laid(second))
		}
	}
	if first == [8]api.Ptr{} {
		return api.Ptr{}
	}
	return place(t, p, laid(first))
}

// grow is a tree that is put by hand, with these blocks, block i of the bytes
// text(i+1, i).
func grow(t *testing.T, p *pile.Pile, nums ...int) api.Ptr {
	t.Helper()
	var blocks [64]api.Ptr
	for _, i := range nums {
		blocks[i] = place(t, p, sector(text(i+1, i)))
	}
	return raise(t, p, blocks)
}

// every is all blocks' numbers.
func every() []int {
	var out []int
	for i := range 64 {
		out = append(out, i)
	}
	return out
}

// on is what is on a device where a pointer leads; of a hole zeros.
func on(t *testing.T, p *pile.Pile, q api.Ptr) api.Sector {
	t.Helper()
	if q == (api.Ptr{}) {
		return api.Sector{}
	}
	s, e := p.Dev().Read(q.At)
	if e != 0 || pointer(q.At, q.Birth, s) != q {
		t.Fatalf("%v leads to %v, %v", q, s, e)
	}
	return s
}

// seen is a tree as it is read by hand.
type seen struct {
	root   api.Ptr
	first  [8]api.Ptr
	second [8][8]api.Ptr
}

func see(t *testing.T, p *pile.Pile, root api.Ptr) seen {
	t.Helper()
	x := seen{root: root, first: said(on(t, p, root))}
	for i, q := range x.first {
		x.second[i] = said(on(t, p, q))
	}
	return x
}

// all is what of a tree was born behind a stamp.
func (x seen) all(stamp uint64) []api.Ptr {
	var out []api.Ptr
	if x.root.Birth > stamp {
		out = append(out, x.root)
		for i, q := range x.first {
			if q.Birth > stamp {
				out = append(out, q)
				for _, q := range x.second[i] {
					if q.Birth > stamp {
						out = append(out, q)
					}
				}
			}
		}
	}
	return out
}

// way is what leads to a block, the block first, without holes.
func (x seen) way(i int) []api.Ptr {
	return slices.DeleteFunc([]api.Ptr{x.second[i/8][i%8], x.first[i/8], x.root}, func(q api.Ptr) bool { return q == api.Ptr{} })
}

// picture is all that a pile, its map and its device tell, but its Ops.
type picture struct {
	stamp, base    uint64
	taken, waiting []api.Span
	count, pending int
	dead           bool
	sectors        []api.Sector
}

func pictureOf(p *pile.Pile) picture {
	d, m := p.Dev(), p.Map()
	out := picture{
		stamp: p.Stamp(), base: p.Base(), taken: m.Taken(), waiting: m.Waiting(), count: m.Count(),
		pending: d.Pending(), dead: d.Dead(),
	}
	for i := range d.Len() {
		s, _ := d.Read(i)
		out.sectors = append(out.sectors, d.Stable(i), s)
	}
	return out
}

func same(a, b picture) bool {
	return a.stamp == b.stamp && a.base == b.base && slices.Equal(a.taken, b.taken) && slices.Equal(a.waiting, b.waiting) &&
		a.count == b.count && a.pending == b.pending && a.dead == b.dead && slices.Equal(a.sectors, b.sectors)
}

// unchanged: a call leaves all as it was.
func unchanged(t *testing.T, what string, p *pile.Pile, call func()) {
	t.Helper()
	was := pictureOf(p)
	call()
	if !same(was, pictureOf(p)) {
		t.Fatalf("%s: changed something", what)
	}
}

// gets holds what Get answers against what it must.
func gets(t *testing.T, p *pile.Pile, root api.Ptr, i int, s api.Sector, errno api.Errno) {
	t.Helper()
	unchanged(t, "Get", p, func() {
		if got, e := Get(p, root, i); got != s || e != errno {
			t.Fatalf("Get(%v, %d): %v, %v, not %v, %v", root, i, got, e, s, errno)
		}
	})
}

// sets is a Set that must answer an error, and change nothing.
func sets(t *testing.T, p *pile.Pile, root api.Ptr, i int, b []byte, errno api.Errno) {
	t.Helper()
	unchanged(t, "Set", p, func() {
		if q, l, e := Set(p, root, i, b); q != root || len(l) != 0 || e != errno {
			t.Fatalf("Set(%v, %d) of %d bytes: %v, %v, %v, not %v", root, i, len(b), q, l, e, errno)
		}
	})
}

// trims is a Trim that must leave the tree and all else as it was.
func trims(t *testing.T, p *pile.Pile, root api.Ptr, i int, errno api.Errno) {
	t.Helper()
	unchanged(t, "Trim", p, func() {
		if q, l, e := Trim(p, root, i); q != root || len(l) != 0 || e != errno {
			t.Fatalf("Trim(%v, %d): %v, %v, %v, not %v", root, i, q, l, e, errno)
		}
	})
}

// lists holds what All answers against what it must.
func lists(t *testing.T, p *pile.Pile, root api.Ptr, stamp uint64, want []api.Ptr, errno api.Errno) {
	t.Helper()
	unchanged(t, "All", p, func() {
		if l, e := All(p, root, stamp); !slices.Equal(l, want) || e != errno {
			t.Fatalf("All(%v, %d): %v, %v, not %v, %v", root, stamp, l, e, want, errno)
		}
	})
}

// counts holds what Blocks answers against what it must.
func counts(t *testing.T, p *pile.Pile, root api.Ptr, want []int, errno api.Errno) {
	t.Helper()
	unchanged(t, "Blocks", p, func() {
		if l, e := Blocks(p, root); !slices.Equal(l, want) || e != errno {
			t.Fatalf("Blocks(%v): %v, %v, not %v, %v", root, l, e, want, errno)
		}
	})
}

// dark takes a device's power away.
func dark(p *pile.Pile) {
	p.Dev().Break(0)
	p.Dev().Flush()
}

// drain leaves so many sectors free.
func drain(p *pile.Pile, left int) { p.Map().Many(p.Map().Count() - left) }

// rot turns a bit of a sector.
func rot(t *testing.T, p *pile.Pile, i int) {
	t.Helper()
	s, _ := p.Dev().Read(i)
	s[77] ^= 4
	if e := p.Dev().Rot(i, s); e != 0 {
		t.Fatal(e)
	}
}

// wrongNodes are sectors that are no nodes.
func wrongNodes() []api.Sector {
	var out []api.Sector
	right := api.Ptr{At: 9, Birth: 1, Sum: 5}
	for i := range 8 {
		for _, q := range []api.Ptr{
			{At: 3, Birth: 1}, {At: 1024, Birth: 1}, {At: 4}, {Birth: 1}, {Sum: 1}, {At: 4, Birth: top + 1}, {At: 1 << 31, Birth: 1},
		} {
			l := [8]api.Ptr{right, {}, right, {}, right, {}, right, {}}
			l[i] = q
			out = append(out, laid(l))
		}
	}
	return out
}

// fault is a root on the way to whose block 20 there is an error, and which
// one that is.
type fault struct {
	what string
	p    *pile.Pile
	root api.Ptr
	e    api.Errno
}

// faults are trees with an error in a node on the way to block 20 (pointers 2
// and 4).
func faults(t *testing.T) []fault {
	t.Helper()
	var out []fault
	add := func(what string, p *pile.Pile, root api.Ptr, e api.Errno) { out = append(out, fault{what, p, root, e}) }

	p := fresh(64, 5, 3)
	root := grow(t, p, 3, 20, 21, 60)
	rot(t, p, root.At)
	add("first node rotten", p, root, errCorrupt)

	p = fresh(64, 5, 3)
	root = grow(t, p, 3, 20, 21, 60)
	rot(t, p, see(t, p, root).first[2].At)
	add("second node rotten", p, root, errCorrupt)

	p = fresh(64, 5, 3)
	root = grow(t, p, 3, 20, 21, 60)
	dark(p)
	add("power gone", p, root, errPower)
	rot(t, p, root.At)
	add("power gone, first node rotten", p, root, errPower)
	add("power gone, no such sector", p, pointer(64, 5, api.Sector{}), errCorrupt)

	p = fresh(64, 5, 3)
	for _, at := range []int{-1, 64, 1023, 1024, math.MaxInt, math.MinInt} {
		add("no such sector", p, pointer(at, 5, api.Sector{}), errCorrupt)
	}
	add("second node's sector isn't there", p, place(t, p, laid([8]api.Ptr{2: pointer(64, 5, api.Sector{})})), errCorrupt)

	for _, s := range wrongNodes() {
		p = fresh(64, 5, 3)
		add("first node is none", p, place(t, p, s), errCorrupt)
		second := place(t, p, s)
		add("second node is none", p, place(t, p, laid([8]api.Ptr{2: second})), errCorrupt)
	}
	return out
}

// The chapter's example.
func TestExample(t *testing.T) {
	p := fresh(64, 1, 0)
	root, l, e := Set(p, api.Ptr{}, 9, []byte("hi"))
	if len(l) != 0 || e != 0 || p.Map().Count() != 57 {
		t.Fatal(root, l, e)
	}
	x := see(t, p, root)
	three := []api.Ptr{x.second[1][1], x.first[1], x.root}
	hole, l, e := Trim(p, root, 9)
	if hole != (api.Ptr{}) || !slices.Equal(l, three) || e != 0 || p.Map().Count() != 57 {
		t.Fatal(hole, l, e)
	}
}

// P11.1

func TestGet(t *testing.T) {
	p := fresh(128, 5, 3)
	root := grow(t, p, every()...)
	for i := range 64 {
		gets(t, p, root, i, sector(text(i+1, i)), 0)
	}
	p.Dev().Flush()
	for i := range 64 {
		gets(t, p, root, i, sector(text(i+1, i)), 0)
	}
}

func TestGetAmongHoles(t *testing.T) {
	for i := range 64 {
		p := fresh(64, 5, 3)
		root := grow(t, p, i)
		for j := range 64 {
			if j == i {
				gets(t, p, root, j, sector(text(i+1, i)), 0)
			} else {
				gets(t, p, root, j, api.Sector{}, 0)
			}
		}
	}
}

func TestGetOfHole(t *testing.T) {
	p := fresh(64, 5, 3)
	p.Dev().Write(0, api.Sector{1})
	for i := range 64 {
		gets(t, p, api.Ptr{}, i, api.Sector{}, 0)
	}
	dark(p)
	for i := range 64 {
		gets(t, p, api.Ptr{}, i, api.Sector{}, 0)
	}
}

func TestGetOfEmptyNodes(t *testing.T) {
	// A node may be there, though it has but holes.
	p := fresh(64, 5, 3)
	empty := place(t, p, api.Sector{})
	root := place(t, p, laid([8]api.Ptr{2: empty}))
	for i := range 64 {
		gets(t, p, empty, i, api.Sector{}, 0)
		gets(t, p, root, i, api.Sector{}, 0)
	}
}

func TestGetOfOddRoots(t *testing.T) {
	// Whether a root is Right isn't asked, but what is there.
	p := fresh(64, 5, 3)
	block := place(t, p, sector([]byte("hi")))
	second := place(t, p, laid([8]api.Ptr{4: block}))
	first := laid([8]api.Ptr{2: second})
	p.Dev().Write(0, first)
	gets(t, p, pointer(0, 0, first), 20, sector([]byte("hi")), 0)
	gets(t, p, pointer(0, top+1, first), 20, sector([]byte("hi")), 0)
	gets(t, p, pointer(0, math.MaxUint64, first), 21, api.Sector{}, 0)
	for _, root := range []api.Ptr{{Birth: 5}, {Sum: 5}, {At: 5}} {
		gets(t, p, root, 20, api.Sector{}, errCorrupt)
	}
}

func TestGetIndex(t *testing.T) {
	p := fresh(128, 5, 3)
	root := grow(t, p, every()...)
	for _, i := range odd() {
		gets(t, p, root, i, api.Sector{}, errIndex)
		gets(t, p, api.Ptr{}, i, api.Sector{}, errIndex)
		gets(t, p, api.Ptr{At: 5000}, i, api.Sector{}, errIndex)
	}
	dark(p)
	for _, i := range odd() {
		gets(t, p, root, i, api.Sector{}, errIndex)
	}
}

func TestGetFaults(t *testing.T) {
	for _, x := range faults(t) {
		t.Run(x.what, func(t *testing.T) { gets(t, x.p, x.root, 20, api.Sector{}, x.e) })
	}
}

func TestGetFaultOfBlock(t *testing.T) {
	p := fresh(128, 5, 3)
	root := grow(t, p, every()...)
	block := see(t, p, root).second[2][4]
	rot(t, p, block.At)
	for i := range 64 {
		if i == 20 {
			gets(t, p, root, i, api.Sector{}, errCorrupt)
		} else {
			gets(t, p, root, i, sector(text(i+1, i)), 0)
		}
	}
	far := pointer(128, 5, api.Sector{})
	second := place(t, p, laid([8]api.Ptr{4: far}))
	root = place(t, p, laid([8]api.Ptr{2: second}))
	gets(t, p, root, 20, api.Sector{}, errCorrupt)
	gets(t, p, root, 21, api.Sector{}, 0)
}

func TestGetBesideFaults(t *testing.T) {
	// What isn't on the way isn't looked at.
	p := fresh(128, 5, 3)
	root := grow(t, p, every()...)
	x := see(t, p, root)
	for i, q := range x.first {
		if i != 2 {
			rot(t, p, q.At)
		}
	}
	for i, q := range x.second[2] {
		if i != 4 {
			rot(t, p, q.At)
		}
	}
	for i := range 64 {
		if i == 20 {
			gets(t, p, root, i, sector(text(i+1, i)), 0)
		} else {
			gets(t, p, root, i, api.Sector{}, errCorrupt)
		}
	}
}

func TestGetOfAnyBlock(t *testing.T) {
	// A block may be any bytes, such of nodes, too, and such of none.
	p := fresh(64, 5, 3)
	var blocks [64]api.Ptr
	l := append(wrongNodes()[:7], laid([8]api.Ptr{{At: 4, Birth: 5}}), api.Sector{}, sector(bytes.Repeat([]byte{255}, 128)))
	for i, s := range l {
		blocks[6*i] = place(t, p, s)
	}
	root := raise(t, p, blocks)
	for i, s := range l {
		gets(t, p, root, 6*i, s, 0)
	}
}

// P11.2

func TestSetInHole(t *testing.T) {
	for i := range 64 {
		p := fresh(64, 5, 3)
		b := text(2*i+1, i)
		root, l, e := Set(p, api.Ptr{}, i, b)
		block := pointer(4, 5, sector(b))
		second := [8]api.Ptr{}
		second[i%8] = block
		first := [8]api.Ptr{}
		first[i/8] = pointer(5, 5, laid(second))
		if root != pointer(6, 5, laid(first)) || len(l) != 0 || e != 0 {
			t.Fatalf("Set(%d): %v, %v, %v", i, root, l, e)
		}
		if p.Map().Count() != 57 || p.Dev().Pending() != 3 || p.Stamp() != 5 || p.Base() != 3 || len(p.Map().Waiting()) != 0 {
			t.Fatalf("Set(%d): %v", i, pictureOf(p))
		}
		if see(t, p, root).first != first || see(t, p, root).second[i/8] != second {
			t.Fatalf("Set(%d): %v", i, see(t, p, root))
		}
		gets(t, p, root, i, sector(b), 0)
	}
}

// set is a Set that must go well. It holds the new tree against the old one,
// and where its three sectors are.
func set(t *testing.T, p *pile.Pile, root api.Ptr, i int, b []byte) (api.Ptr, []api.Ptr) {
	t.Helper()
	was, before, m := see(t, p, root), pictureOf(p), p.Map().Copy()
	at, _ := m.Many(3)
	q, l, e := Set(p, root, i, b)
	if e != 0 || !slices.Equal(l, was.way(i)) {
		t.Fatalf("Set(%v, %d): %v, %v, %v, not %v", root, i, q, l, e, was.way(i))
	}
	want := was
	want.second[i/8][i%8] = pointer(at[0], p.Stamp(), sector(b))
	want.first[i/8] = pointer(at[1], p.Stamp(), laid(want.second[i/8]))
	want.root = pointer(at[2], p.Stamp(), laid(want.first))
	if see(t, p, q) != want {
		t.Fatalf("Set(%v, %d): %v, not %v", root, i, see(t, p, q), want)
	}
	on(t, p, want.second[i/8][i%8])
	if was != see(t, p, root) {
		t.Fatalf("Set(%v, %d): the tree that was is another one", root, i)
	}
	// But for its three sectors all is as it was: nothing is dropped.
	before.taken, before.count, before.pending = m.Taken(), m.Count(), before.pending+3
	for _, at := range at {
		s, _ := p.Dev().Read(at)
		before.sectors[2*at+1] = s
	}
	if !same(before, pictureOf(p)) {
		t.Fatalf("Set(%v, %d): changed more than three sectors", root, i)
	}
	return q, l
}

func TestSet(t *testing.T) {
	p := fresh(512, 5, 3)
	root := grow(t, p, every()...)
	p.Next()
	for i := range 64 {
		q, _ := set(t, p, root, i, text(128-i, 3*i))
		x := grown()
		x[i] = sector(text(128-i, 3*i))
		holds(t, p, q, x)
	}
}

func TestSetAmongHoles(t *testing.T) {
	for _, i := range []int{20, 21, 19, 16, 23, 12, 28, 0, 63} {
		for _, nums := range [][]int{nil, {20}, {20, 21}, {16, 23}, {12, 28}, {0, 63}, {0, 20, 63}, {4, 36}} {
			p := fresh(64, 5, 3)
			root := grow(t, p, nums...)
			set(t, p, root, i, text(9, 9))
		}
	}
}

func TestSetReplaced(t *testing.T) {
	// What was replaced is told without holes, the block ahead of the nodes.
	p := fresh(64, 5, 3)
	root := grow(t, p, 20, 60)
	x := see(t, p, root)
	for _, c := range []struct {
		i    int
		want []api.Ptr
	}{
		{20, []api.Ptr{x.second[2][4], x.first[2], root}},
		{21, []api.Ptr{x.first[2], root}},
		{59, []api.Ptr{x.first[7], root}},
		{0, []api.Ptr{root}},
		{28, []api.Ptr{root}},
	} {
		if _, l, e := Set(p, root, c.i, nil); !slices.Equal(l, c.want) || e != 0 {
			t.Fatalf("Set(%d): %v, %v, not %v", c.i, l, e, c.want)
		}
	}
	if _, l, e := Set(p, api.Ptr{}, 20, nil); len(l) != 0 || e != 0 {
		t.Fatal(l, e)
	}
	// A node that has but holes is none itself.
	empty := place(t, p, api.Sector{})
	root = place(t, p, laid([8]api.Ptr{2: empty}))
	if _, l, e := Set(p, root, 20, nil); !slices.Equal(l, []api.Ptr{empty, root}) || e != 0 {
		t.Fatal(l, e)
	}
	if _, l, e := Set(p, empty, 20, nil); !slices.Equal(l, []api.Ptr{empty}) || e != 0 {
		t.Fatal(l, e)
	}
}

func TestSetSame(t *testing.T) {
	// The same bytes are written elsewhere, too.
	p := fresh(64, 5, 3)
	root := grow(t, p, 20)
	q, l := set(t, p, root, 20, text(21, 20))
	if q == root || len(l) != 3 {
		t.Fatal(q, l)
	}
}

func TestSetLengths(t *testing.T) {
	p := fresh(1024, 5, 3)
	root := grow(t, p, 20)
	for _, many := range []int{0, 1, 2, 64, 126, 127, 128} {
		q, _ := set(t, p, root, 20, text(many, many))
		gets(t, p, q, 20, sector(text(many, many)), 0)
	}
	q, _ := set(t, p, root, 20, nil)
	gets(t, p, q, 20, api.Sector{}, 0)
	// A block of zeros is no hole.
	counts(t, p, q, []int{20}, 0)
	for _, many := range []int{129, 130, 256, 1 << 16} {
		sets(t, p, root, 20, text(many, 1), errBlock)
		sets(t, p, api.Ptr{}, 0, text(many, 1), errBlock)
	}
}

func TestSetStamps(t *testing.T) {
	for _, stamp := range []uint64{1, 2, 255, 1 << 32, top - 1, top} {
		p := fresh(64, stamp, 0)
		root, _ := set(t, p, api.Ptr{}, 20, nil)
		x := see(t, p, root)
		if root.Birth != stamp || x.first[2].Birth != stamp || x.second[2][4].Birth != stamp {
			t.Fatalf("stamp %d: %v", stamp, root)
		}
	}
	// A tree may be older than the stamp, and newer.
	p := fresh(64, 5, 3)
	root := grow(t, p, 20, 21)
	for _, stamp := range []uint64{1, 9, top} {
		set(t, pile.New(p.Dev(), p.Map(), stamp, 0), root, 20, nil)
	}
}

func TestSetOrder(t *testing.T) {
	// The errors stand in an order.
	long := make([]byte, 129)
	for _, x := range faults(t) {
		t.Run(x.what, func(t *testing.T) {
			for _, i := range odd() {
				sets(t, x.p, x.root, i, long, errIndex)
				sets(t, x.p, x.root, i, nil, errIndex)
			}
			sets(t, x.p, x.root, 20, long, errBlock)
			sets(t, x.p, x.root, 20, []byte("hi"), x.e)
			drain(x.p, 0)
			sets(t, x.p, x.root, 20, long, errBlock)
			sets(t, x.p, x.root, 20, []byte("hi"), x.e)
		})
	}
	p := fresh(64, 5, 3)
	drain(p, 2)
	dark(p)
	sets(t, p, api.Ptr{}, 64, long, errIndex)
	sets(t, p, api.Ptr{}, 63, long, errBlock)
	sets(t, p, api.Ptr{}, 63, nil, errSpace)
}

func TestSetDoesNotReadTheBlock(t *testing.T) {
	p := fresh(64, 5, 3)
	root := grow(t, p, 20)
	block := see(t, p, root).second[2][4]
	rot(t, p, block.At)
	q, l := set(t, p, root, 20, []byte("hi"))
	if l[0] != block {
		t.Fatal(l)
	}
	gets(t, p, q, 20, sector([]byte("hi")), 0)
	far := pointer(64, 5, api.Sector{})
	second := place(t, p, laid([8]api.Ptr{4: far}))
	root = place(t, p, laid([8]api.Ptr{2: second}))
	if _, l, e := Set(p, root, 20, nil); !slices.Equal(l, []api.Ptr{far, second, root}) || e != 0 {
		t.Fatal(l, e)
	}
}

func TestSetBesideFaults(t *testing.T) {
	p := fresh(128, 5, 3)
	root := grow(t, p, every()...)
	x := see(t, p, root)
	for i, q := range x.first {
		if i != 2 {
			rot(t, p, q.At)
		}
	}
	if _, l, e := Set(p, root, 20, nil); len(l) != 3 || e != 0 {
		t.Fatal(l, e)
	}
	if _, l, e := Trim(p, root, 20); len(l) != 3 || e != 0 {
		t.Fatal(l, e)
	}
	sets(t, p, root, 12, nil, errCorrupt)
	trims(t, p, root, 12, errCorrupt)
}

func TestSetSpace(t *testing.T) {
	for _, nums := range [][]int{nil, {20}, {21}, {12}, {20, 21}, {20, 12}} {
		for left := range 3 {
			p := fresh(64, 5, 3)
			root := grow(t, p, nums...)
			drain(p, left)
			sets(t, p, root, 20, []byte("hi"), errSpace)
		}
		p := fresh(64, 5, 3)
		root := grow(t, p, nums...)
		drain(p, 3)
		set(t, p, root, 20, []byte("hi"))
		if p.Map().Count() != 0 {
			t.Fatal("something is free")
		}
	}
	// What will be free isn't.
	p := fresh(64, 5, 3)
	l, _ := p.Map().Many(60)
	for _, i := range l[:9] {
		p.Map().Later(i)
	}
	sets(t, p, api.Ptr{}, 20, nil, errSpace)
	p.Map().Commit()
	if _, _, e := Set(p, api.Ptr{}, 20, nil); e != 0 {
		t.Fatal(e)
	}
}

func TestSetOfDevice(t *testing.T) {
	for n := range 5 {
		p := fresh(64, 5, 3)
		root := grow(t, p, 20)
		p.Dev().Flush()
		p.Dev().Break(n)
		q, l, e := Set(p, root, 20, []byte("hi"))
		switch {
		case n < 3 && (q != root || len(l) != 0 || e != errPower || !p.Dev().Dead() || p.Dev().Pending() != n):
			t.Fatalf("power gone at write %d: %v, %v, %v", n, q, l, e)
		case n >= 3 && (q == root || len(l) != 3 || e != 0 || p.Dev().Dead()):
			t.Fatalf("power gone at write %d: %v, %v, %v", n, q, l, e)
		}
		p.Dev().Crash()
		gets(t, p, root, 20, sector(text(21, 20)), 0)
	}
	// A map may have more sectors than the device.
	for n := range 3 {
		p := pile.New(vdev.New(64), slab.New(128), 5, 3)
		l, _ := p.Map().Many(124)
		for _, i := range []int{63, 62, 61}[:n] {
			p.Map().Free(i)
		}
		for _, i := range []int{127, 126, 125}[n:] {
			p.Map().Free(i)
		}
		if q, r, e := Set(p, api.Ptr{}, 20, nil); q != (api.Ptr{}) || len(r) != 0 || e != errSector {
			t.Fatalf("%v: %v, %v, %v", l, q, r, e)
		}
	}
}

func TestSetAtStampZero(t *testing.T) {
	// What is born at 0 has no pointer that can stand in a node.
	p := fresh(64, 0, 0)
	if q, l, e := Set(p, api.Ptr{}, 20, nil); q != (api.Ptr{}) || len(l) != 0 || e == 0 {
		t.Fatal(q, l, e)
	}
	p = fresh(64, 5, 3)
	root := grow(t, p, 20)
	p = pile.New(p.Dev(), p.Map(), 0, 0)
	if q, l, e := Set(p, root, 20, nil); q != root || len(l) != 0 || e == 0 {
		t.Fatal(q, l, e)
	}
}

// P11.3

// trim is a Trim that must go well of a block that is there. It holds the new
// tree against the old one, and where its nodes are.
func trim(t *testing.T, p *pile.Pile, root api.Ptr, i int) (api.Ptr, []api.Ptr) {
	t.Helper()
	was, before, m := see(t, p, root), pictureOf(p), p.Map().Copy()
	q, l, e := Trim(p, root, i)
	if e != 0 || !slices.Equal(l, was.way(i)) {
		t.Fatalf("Trim(%v, %d): %v, %v, %v, not %v", root, i, q, l, e, was.way(i))
	}
	want, written := was, 0
	lay := func(l [8]api.Ptr) api.Ptr {
		if l == [8]api.Ptr{} {
			return api.Ptr{}
		}
		written++
		at, _ := m.Alloc()
		before.sectors[2*at+1] = laid(l)
		return pointer(at, p.Stamp(), laid(l))
	}
	want.second[i/8][i%8] = api.Ptr{}
	want.first[i/8] = lay(want.second[i/8])
	want.root = lay(want.first)
	if see(t, p, q) != want {
		t.Fatalf("Trim(%v, %d): %v, not %v", root, i, see(t, p, q), want)
	}
	// But for its new nodes all is as it was: nothing is dropped.
	before.taken, before.count, before.pending = m.Taken(), m.Count(), before.pending+written
	if !same(before, pictureOf(p)) {
		t.Fatalf("Trim(%v, %d): changed more than %d sectors", root, i, written)
	}
	return q, l
}

func TestTrim(t *testing.T) {
	p := fresh(512, 5, 3)
	root := grow(t, p, every()...)
	p.Next()
	for i := range 64 {
		q, _ := trim(t, p, root, i)
		x := grown()
		delete(x, i)
		holds(t, p, q, x)
		holds(t, p, root, grown())
	}
}

func TestTrimToHoles(t *testing.T) {
	for i := range 64 {
		// The only block of all.
		p := fresh(64, 5, 3)
		root := grow(t, p, i)
		if q, l := trim(t, p, root, i); q != (api.Ptr{}) || len(l) != 3 {
			t.Fatalf("Trim(%d): %v, %v", i, q, l)
		}
		// The only one of its node, beside another node.
		p = fresh(64, 5, 3)
		root = grow(t, p, i, (i+8)%64)
		if q, l := trim(t, p, root, i); q == (api.Ptr{}) || len(l) != 3 || see(t, p, q).first[i/8] != (api.Ptr{}) {
			t.Fatalf("Trim(%d): %v, %v", i, q, l)
		}
		// Beside one in its node.
		p = fresh(64, 5, 3)
		root = grow(t, p, i, i^3)
		if q, l := trim(t, p, root, i); q == (api.Ptr{}) || len(l) != 3 || see(t, p, q).first[i/8] == (api.Ptr{}) {
			t.Fatalf("Trim(%d): %v, %v", i, q, l)
		}
	}
}

func TestTrimAll(t *testing.T) {
	p := fresh(512, 5, 3)
	root := grow(t, p, every()...)
	for k := range 64 {
		root, _ = trim(t, p, root, (k*37+11)%64)
	}
	if root != (api.Ptr{}) {
		t.Fatal(root)
	}
}

func TestTrimOfHole(t *testing.T) {
	p := fresh(64, 5, 3)
	root := grow(t, p, 20, 60)
	empty := place(t, p, api.Sector{})
	low := place(t, p, laid([8]api.Ptr{2: empty}))
	holes := func() {
		t.Helper()
		for _, i := range []int{0, 16, 19, 21, 23, 28, 12, 52, 59, 61, 63} {
			trims(t, p, root, i, 0)
		}
		for i := range 64 {
			trims(t, p, api.Ptr{}, i, 0)
			// Nothing changes: nodes that have but holes stay, too.
			trims(t, p, empty, i, 0)
			trims(t, p, low, i, 0)
		}
	}
	holes()
	drain(p, 0)
	holes()
	dark(p)
	for i := range 64 {
		trims(t, p, api.Ptr{}, i, 0)
	}
}

func TestTrimBesideEmptyNodes(t *testing.T) {
	// A pointer to a node that has but holes is no hole: the first node stays.
	p := fresh(64, 5, 3)
	empty := place(t, p, api.Sector{})
	block := place(t, p, sector([]byte("hi")))
	second := place(t, p, laid([8]api.Ptr{4: block}))
	root := place(t, p, laid([8]api.Ptr{2: second, 5: empty}))
	q, l := trim(t, p, root, 20)
	if q == (api.Ptr{}) || !slices.Equal(l, []api.Ptr{block, second, root}) {
		t.Fatal(q, l)
	}
}

func TestTrimOrder(t *testing.T) {
	for _, x := range faults(t) {
		t.Run(x.what, func(t *testing.T) {
			for _, left := range []int{9, 0} {
				drain(x.p, left)
				for _, i := range odd() {
					trims(t, x.p, x.root, i, errIndex)
				}
				trims(t, x.p, x.root, 20, x.e)
			}
		})
	}
	p := fresh(64, 5, 3)
	root := grow(t, p, 20, 21)
	drain(p, 0)
	for _, i := range odd() {
		trims(t, p, root, i, errIndex)
		trims(t, p, api.Ptr{}, i, errIndex)
	}
	trims(t, p, root, 20, errSpace)
	dark(p)
	trims(t, p, root, 20, errPower)
}

func TestTrimDoesNotReadTheBlock(t *testing.T) {
	p := fresh(64, 5, 3)
	root := grow(t, p, 20, 21)
	block := see(t, p, root).second[2][4]
	rot(t, p, block.At)
	if _, l := trim(t, p, root, 20); l[0] != block {
		t.Fatal(l)
	}
}

func TestTrimSpace(t *testing.T) {
	for _, c := range []struct {
		nums []int
		need int
	}{
		{[]int{20}, 0},
		{[]int{20, 12}, 1}, {[]int{20, 28}, 1}, {[]int{20, 0, 63}, 1},
		{[]int{20, 21}, 2}, {[]int{20, 16}, 2}, {[]int{20, 23, 63}, 2}, {every(), 2},
	} {
		for left := range 4 {
			p := fresh(128, 5, 3)
			root := grow(t, p, c.nums...)
			drain(p, left)
			if left < c.need {
				trims(t, p, root, 20, errSpace)
				continue
			}
			trim(t, p, root, 20)
			if p.Map().Count() != left-c.need {
				t.Fatalf("%v: %d of %d are free", c.nums, p.Map().Count(), left)
			}
		}
	}
}

func TestTrimOfDevice(t *testing.T) {
	for need, nums := range [][]int{{20}, {20, 12}, {20, 21}} {
		for n := range 4 {
			p := fresh(64, 5, 3)
			root := grow(t, p, nums...)
			p.Dev().Flush()
			p.Dev().Break(n)
			q, l, e := Trim(p, root, 20)
			switch {
			case n < need && (q != root || len(l) != 0 || e != errPower || !p.Dev().Dead() || p.Dev().Pending() != n):
				t.Fatalf("power gone at write %d of %d: %v, %v, %v", n, need, q, l, e)
			case n >= need && (q == root || len(l) != 3 || e != 0 || p.Dev().Dead()):
				t.Fatalf("power gone at write %d of %d: %v, %v, %v", n, need, q, l, e)
			}
		}
	}
}

func TestTrimThere(t *testing.T) {
	// Set and Trim leave in a node no pointer that is newer than the one to it.
	p := fresh(256, 5, 3)
	root := grow(t, p, 3, 20, 21, 60)
	p.Next()
	root, _ = set(t, p, root, 20, nil)
	p.Next()
	root, _ = trim(t, p, root, 3)
	p.Next()
	root, _ = trim(t, p, root, 20)
	x := see(t, p, root)
	if root.Birth != 8 || x.first[0] != (api.Ptr{}) || x.first[2].Birth != 8 || x.first[7].Birth != 5 || x.second[2][5].Birth != 5 {
		t.Fatal(x)
	}
}

// P11.4

func TestAll(t *testing.T) {
	p := fresh(128, 5, 3)
	root := grow(t, p, 3, 20, 21, 60)
	x := see(t, p, root)
	want := []api.Ptr{
		root, x.first[0], x.second[0][3], x.first[2], x.second[2][4], x.second[2][5], x.first[7], x.second[7][4],
	}
	for _, stamp := range []uint64{0, 1, 4} {
		lists(t, p, root, stamp, want, 0)
	}
	for _, stamp := range []uint64{5, 6, top, 1 << 63, math.MaxUint64} {
		lists(t, p, root, stamp, nil, 0)
	}
	counts(t, p, root, []int{3, 20, 21, 60}, 0)
}

func TestAllOfFull(t *testing.T) {
	p := fresh(128, 5, 3)
	root := grow(t, p, every()...)
	want := see(t, p, root).all(0)
	if len(want) != 73 {
		t.Fatal(len(want))
	}
	lists(t, p, root, 0, want, 0)
	lists(t, p, root, 4, want, 0)
	lists(t, p, root, 5, nil, 0)
	counts(t, p, root, every(), 0)
}

func TestBlocks(t *testing.T) {
	for i := range 64 {
		p := fresh(64, 5, 3)
		counts(t, p, grow(t, p, i), []int{i}, 0)
		p = fresh(128, 5, 3)
		others := slices.Delete(every(), i, i+1)
		counts(t, p, grow(t, p, others...), others, 0)
	}
}

func TestAllAndBlocksOfHole(t *testing.T) {
	p := fresh(64, 5, 3)
	p.Dev().Write(0, api.Sector{1})
	for range 2 {
		for _, stamp := range []uint64{0, 1, math.MaxUint64} {
			lists(t, p, api.Ptr{}, stamp, nil, 0)
		}
		counts(t, p, api.Ptr{}, nil, 0)
		dark(p)
	}
}

func TestAllOfEmptyNodes(t *testing.T) {
	p := fresh(64, 5, 3)
	empty := place(t, p, api.Sector{})
	root := place(t, p, laid([8]api.Ptr{2: empty, 3: empty}))
	lists(t, p, empty, 0, []api.Ptr{empty}, 0)
	lists(t, p, root, 0, []api.Ptr{root, empty, empty}, 0)
	counts(t, p, empty, nil, 0)
	counts(t, p, root, nil, 0)
}

func TestAllOfShared(t *testing.T) {
	// A node is told as often as a pointer leads to it.
	p := fresh(64, 5, 3)
	block := place(t, p, sector([]byte("hi")))
	second := place(t, p, laid([8]api.Ptr{1: block, 6: block}))
	root := place(t, p, laid([8]api.Ptr{0: second, 1: second, 7: second}))
	lists(t, p, root, 0, []api.Ptr{root, second, block, block, second, block, block, second, block, block}, 0)
	counts(t, p, root, []int{1, 6, 9, 14, 57, 62}, 0)
}

// ages is a tree with nodes and blocks of many births.
func ages(t *testing.T, p *pile.Pile) api.Ptr {
	t.Helper()
	root := grow(t, p, 3, 20, 21, 60)
	for k, i := range []int{20, 33, 21, 4, 60, 61} {
		p.Next()
		if k == 3 {
			p.Next()
		}
		root, _ = set(t, p, root, i, text(9, k))
	}
	p.Next()
	root, _ = trim(t, p, root, 61)
	return root
}

func TestAllSince(t *testing.T) {
	p := fresh(128, 5, 3)
	root := ages(t, p)
	x := see(t, p, root)
	for stamp := range p.Stamp() + 2 {
		lists(t, p, root, stamp, x.all(stamp), 0)
	}
	counts(t, p, root, []int{3, 4, 20, 21, 33, 60}, 0)
	// What was born behind a stamp is told to the last, as none is newer than
	// the pointer to its node.
	for stamp := range p.Stamp() {
		many := 0
		for _, q := range x.all(0) {
			if q.Birth > stamp {
				many++
			}
		}
		if l, _ := All(p, root, stamp); len(l) != many {
			t.Fatalf("All(%d): %v", stamp, l)
		}
	}
}

func TestAllBelowOld(t *testing.T) {
	// Below an old node nothing is looked at, though it be new, or rotten.
	p := fresh(128, 9, 3)
	block := place(t, p, sector([]byte("hi")))
	old, young := pile.New(p.Dev(), p.Map(), 4, 3), pile.New(p.Dev(), p.Map(), 6, 3)
	a := place(t, old, laid([8]api.Ptr{4: block}))
	b := place(t, young, laid([8]api.Ptr{1: block, 2: place(t, old, api.Sector{}), 3: block}))
	root := place(t, p, laid([8]api.Ptr{2: a, 5: b}))
	lists(t, p, root, 3, []api.Ptr{root, a, block, b, block, see(t, p, root).second[5][2], block}, 0)
	lists(t, p, root, 4, []api.Ptr{root, b, block, block}, 0)
	lists(t, p, root, 5, []api.Ptr{root, b, block, block}, 0)
	lists(t, p, root, 6, []api.Ptr{root}, 0)
	lists(t, p, root, 8, []api.Ptr{root}, 0)
	lists(t, p, root, 9, nil, 0)
	rot(t, p, a.At)
	lists(t, p, root, 3, nil, errCorrupt)
	lists(t, p, root, 4, []api.Ptr{root, b, block, block}, 0)
	counts(t, p, root, nil, errCorrupt)
	rot(t, p, b.At)
	lists(t, p, root, 5, nil, errCorrupt)
	lists(t, p, root, 6, []api.Ptr{root}, 0)
	rot(t, p, root.At)
	lists(t, p, root, 8, nil, errCorrupt)
	lists(t, p, root, 9, nil, 0)
	dark(p)
	lists(t, p, root, 8, nil, errPower)
	lists(t, p, root, 9, nil, 0)
}

func TestAllDoesNotReadBlocks(t *testing.T) {
	p := fresh(128, 5, 3)
	root := grow(t, p, 3, 20, 21, 60)
	want := see(t, p, root).all(0)
	for _, l := range see(t, p, root).second {
		for _, q := range l {
			if q != (api.Ptr{}) {
				rot(t, p, q.At)
			}
		}
	}
	lists(t, p, root, 0, want, 0)
	counts(t, p, root, []int{3, 20, 21, 60}, 0)
}

func TestAllAndBlocksFaults(t *testing.T) {
	for _, x := range faults(t) {
		t.Run(x.what, func(t *testing.T) {
			lists(t, x.p, x.root, 0, nil, x.e)
			counts(t, x.p, x.root, nil, x.e)
			lists(t, x.p, x.root, x.root.Birth, nil, 0)
		})
	}
	// Each node is looked at, the last one too.
	for k := range 8 {
		p := fresh(128, 5, 3)
		root := grow(t, p, every()...)
		rot(t, p, see(t, p, root).first[k].At)
		lists(t, p, root, 0, nil, errCorrupt)
		counts(t, p, root, nil, errCorrupt)
	}
}

func TestAllAndBlocksOfOddRoots(t *testing.T) {
	// A root born at 0 is behind no stamp, but it is no hole.
	p := fresh(64, 5, 3)
	x := see(t, p, grow(t, p, 20))
	p.Dev().Write(0, laid(x.first))
	root := pointer(0, 0, laid(x.first))
	lists(t, p, root, 0, nil, 0)
	counts(t, p, root, []int{20}, 0)
	for _, birth := range []uint64{1, top + 1, math.MaxUint64} {
		root = pointer(0, birth, laid(x.first))
		lists(t, p, root, 0, []api.Ptr{root, x.first[2], x.second[2][4]}, 0)
		counts(t, p, root, []int{20}, 0)
	}
	lists(t, p, api.Ptr{Birth: 5}, 4, nil, errCorrupt)
	lists(t, p, api.Ptr{Birth: 5}, 5, nil, 0)
	for _, root := range []api.Ptr{{Birth: 5}, {At: 5}, {Sum: 5}} {
		counts(t, p, root, nil, errCorrupt)
	}
}

func TestFewReads(t *testing.T) {
	// Layer 20 has twenty reads and writes for a call: each node is had once.
	p := fresh(128, 5, 3)
	root := grow(t, p, every()...)
	for _, c := range []struct {
		what string
		most int
		call func()
	}{
		{"Get", 3, func() { Get(p, root, 20) }},
		{"Set", 5, func() { Set(p, root, 20, nil) }},
		{"Trim", 4, func() { Trim(p, root, 20) }},
		{"All", 9, func() { All(p, root, 0) }},
		{"Blocks", 9, func() { Blocks(p, root) }},
	} {
		was := p.Dev().Ops()
		c.call()
		if many := p.Dev().Ops() - was; many > c.most {
			t.Errorf("%s: %d reads and writes", c.what, many)
		}
	}
}

// plain is a tree as it is thought of: its blocks' bytes.
type plain map[int]api.Sector

// grown is the tree that grow makes of every block.
func grown() plain {
	x := plain{}
	for i := range 64 {
		x[i] = sector(text(i+1, i))
	}
	return x
}

// holds holds a tree against a plain one.
func holds(t *testing.T, p *pile.Pile, root api.Ptr, x plain) {
	t.Helper()
	var want []int
	for i := range 64 {
		s, ok := x[i]
		if ok {
			want = append(want, i)
		}
		if got, e := Get(p, root, i); got != s || e != 0 {
			t.Fatalf("Get(%d): %v, %v, not %v", i, got, e, s)
		}
	}
	if l, e := Blocks(p, root); !slices.Equal(l, want) || e != 0 {
		t.Fatalf("Blocks: %v, %v, not %v", l, e, want)
	}
}

// copyOf is another plain tree, alike.
func copyOf(x plain) plain {
	out := plain{}
	for i, s := range x {
		out[i] = s
	}
	return out
}

// reached: as many sectors are taken as the tree has pointers, and those.
func reached(t *testing.T, p *pile.Pile, root api.Ptr) {
	t.Helper()
	l, e := All(p, root, 0)
	if e != 0 || p.Map().Count() != p.Dev().Len()-4-len(l) {
		t.Fatalf("%d are free, %v are reached", p.Map().Count(), l)
	}
	m := p.Map().Copy()
	for _, q := range l {
		if m.Free(q.At) != 0 {
			t.Fatalf("%v isn't taken", q)
		}
	}
}

// TestOneTree changes a tree and drops what is replaced: just what it reaches
// is taken.
func TestOneTree(t *testing.T) {
	r := rand.New(rand.NewSource(1))
	for range 20 {
		p := fresh(64+r.Intn(64), 1, 0)
		root, x := api.Ptr{}, plain{}
		for range 150 {
			i := r.Intn(64)
			b := text(r.Intn(129), r.Intn(256))
			var l []api.Ptr
			var e api.Errno
			if r.Intn(3) > 0 {
				if root, l, e = Set(p, root, i, b); e == 0 {
					x[i] = sector(b)
				}
			} else {
				if root, l, e = Trim(p, root, i); e == 0 {
					delete(x, i)
				}
			}
			if e != 0 && e != errSpace {
				t.Fatal(e)
			}
			for _, q := range l {
				if p.Drop(q) != 0 {
					t.Fatalf("Drop of %v", q)
				}
			}
			if r.Intn(5) == 0 {
				p.Next()
			}
			holds(t, p, root, x)
			reached(t, p, root)
		}
	}
}

// TestManyTrees changes trees that share nodes and blocks: each stays as it
// was, and those behind a stamp are what that stamp hadn't.
func TestManyTrees(t *testing.T) {
	r := rand.New(rand.NewSource(2))
	for range 5 {
		p := fresh(1024, 1, 0)
		roots, plains, births := []api.Ptr{{}}, []plain{{}}, []uint64{0}
		root, x := api.Ptr{}, plain{}
		for range 120 {
			i, b := r.Intn(64), text(r.Intn(129), r.Intn(256))
			if r.Intn(3) > 0 {
				root, _ = set(t, p, root, i, b)
				x[i] = sector(b)
			} else if _, ok := x[i]; ok {
				root, _ = trim(t, p, root, i)
				delete(x, i)
			} else {
				trims(t, p, root, i, 0)
			}
			if r.Intn(12) == 0 {
				roots, plains, births = append(roots, root), append(plains, copyOf(x)), append(births, p.Stamp())
				p.Next()
			}
		}
		for k, root := range roots {
			holds(t, p, root, plains[k])
			old, _ := All(p, root, 0)
			for _, later := range roots[k:] {
				all, _ := All(p, later, 0)
				young, e := All(p, later, births[k])
				want := slices.DeleteFunc(all, func(q api.Ptr) bool { return slices.Contains(old, q) })
				if !slices.Equal(young, want) || e != 0 {
					t.Fatalf("All since %d: %v, %v, not %v", births[k], young, e, want)
				}
			}
		}
	}
}

// P1, P2 and the rules that hold everywhere

// TestAllArguments: each call ends and none panics.
func TestAllArguments(t *testing.T) {
	nums := []uint64{0, 1, 5, top, top + 1, math.MaxInt64, math.MaxInt64 + 1, math.MaxUint64}
	for _, stamp := range nums {
		p := fresh(128, stamp, 3)
		full := grow(t, fresh(128, 5, 3), every()...)
		node := laid([8]api.Ptr{{At: 4, Birth: 1}, {At: 5, Birth: top, Sum: 9}, {At: 1023, Birth: 9}})
		for i := range 128 {
			p.Dev().Write(i, node)
		}
		roots := []api.Ptr{{}, full, {At: 4}, {Birth: 1}, {Sum: 1}}
		for _, at := range append(odd(), 0, 3, 4, 127) {
			for _, birth := range nums {
				roots = append(roots, api.Ptr{At: at, Birth: birth, Sum: math.MaxUint32}, pointer(at, birth, node))
			}
		}
		for _, root := range roots {
			for _, i := range append(odd(), 0, 9, 63) {
				Get(p, root, i)
				Set(p, root, i, nil)
				Set(p, root, i, make([]byte, 129))
				Trim(p, root, i)
			}
			for _, stamp := range nums {
				All(p, root, stamp)
			}
			Blocks(p, root)
		}
	}
}

// TestNodesAsBlocks: a tree is two nodes deep, whatever its blocks look like.
func TestNodesAsBlocks(t *testing.T) {
	p := fresh(64, 5, 3)
	root := api.Ptr{}
	for range 9 {
		s := laid([8]api.Ptr{root, root, root, root, root, root, root, root})
		root = place(t, p, s)
	}
	if l, e := All(p, root, 0); len(l) != 73 || e != 0 {
		t.Fatal(len(l), e)
	}
	counts(t, p, root, every(), 0)
}

func TestArgumentsUnchanged(t *testing.T) {
	for _, many := range []int{0, 3, 127, 128, 129} {
		whole := text(300, 9)
		was := bytes.Clone(whole)
		Set(fresh(64, 5, 3), api.Ptr{}, 20, whole[:many])
		if !bytes.Equal(whole, was) {
			t.Fatalf("%d bytes: changed", many)
		}
	}
}

func TestNothingKept(t *testing.T) {
	p := fresh(64, 5, 3)
	b := text(128, 9)
	was := sector(b)
	root, _, _ := Set(p, api.Ptr{}, 20, b)
	clear(b)
	gets(t, p, root, 20, was, 0)
	s, _ := Get(p, root, 20)
	clear(s[:])
	gets(t, p, root, 20, was, 0)
	x := see(t, p, root)
	for range 3 {
		all, _ := All(p, root, 0)
		clear(all[:cap(all)])
		lists(t, p, root, 0, []api.Ptr{root, x.first[2], x.second[2][4]}, 0)
		nums, _ := Blocks(p, root)
		clear(nums[:cap(nums)])
		counts(t, p, root, []int{20}, 0)
		_, l, _ := Set(p, root, 20, nil)
		if !slices.Equal(l, []api.Ptr{x.second[2][4], x.first[2], root}) {
			t.Fatal(l)
		}
		clear(l[:cap(l)])
		gets(t, p, root, 20, was, 0)
	}
}
