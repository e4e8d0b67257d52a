package pile

import (
	"bytes"
	"hash/crc32"
	"math"
	"math/rand"
	"slices"
	"testing"

	"aquifer/api"
	"aquifer/slab"
	"aquifer/vdev"
)

const maxStamp = 1<<48 - 1

// odd are numbers of sectors that a device of 128 hasn't.
func odd() []int {
	return []int{
		-1, -4, -64, math.MinInt, math.MinInt + 5, math.MaxInt, math.MaxInt - 1, 128, 129, 1023, 1024, 1028, 4096, 4101,
		1<<16 + 5, 1 << 32, 1<<32 + 5, -1 << 32, -1<<32 + 5, 1<<62 + 5,
	}
}

// stamps are such as a pile can have.
func stamps() []uint64 {
	return []uint64{0, 1, 2, 5, 255, 256, 1<<16 - 1, 1 << 16, 1<<32 - 1, 1 << 32, 1<<32 + 1, maxStamp - 1, maxStamp}
}

// text is some bytes of a length, each another one than its neighbour.
func text(many, first int) []byte {
	b := make([]byte, many)
	for i := range b {
		b[i] = byte(first + 7*i)
	}
	return b
}

// sector is bytes with zeros behind.
func sector(b []byte) api.Sector {
	var s api.Sector
	for i, c := range b {
		s[i] = c
	}
	return s
}

// pointer is the pointer to a sector with these bytes, by the library's sum.
func pointer(at int, birth uint64, s api.Sector) api.Ptr {
	return api.Ptr{At: at, Birth: birth, Sum: crc32.Checksum(s[:], crc32.MakeTable(crc32.Castagnoli))}
}

// fresh is a pile of so many sectors.
func fresh(many int, stamp, base uint64) *Pile {
	return New(vdev.New(many), slab.New(many), stamp, base)
}

// put is a Put that must go well.
func put(t *testing.T, p *Pile, b []byte) api.Ptr {
	t.Helper()
	q, e := p.Put(b)
	if e != 0 {
		t.Fatalf("Put: %v", e)
	}
	return q
}

// gets holds what Get answers against what it must.
func gets(t *testing.T, p *Pile, q api.Ptr, s api.Sector, errno api.Errno) {
	t.Helper()
	if got, e := p.Get(q); got != s || e != errno {
		t.Fatalf("Get(%v): %v, %v, not %v, %v", q, got, e, s, errno)
	}
}

// picture is all that a pile, its map and its device tell.
type picture struct {
	stamp, base    uint64
	taken, waiting []api.Span
	count          int
	pending        int
	dead           bool
	stable         []api.Sector
}

func pictureOf(p *Pile) picture {
	d, m := p.Dev(), p.Map()
	out := picture{
		stamp: p.Stamp(), base: p.Base(), taken: m.Taken(), waiting: m.Waiting(), count: m.Count(),
		pending: d.Pending(), dead: d.Dead(),
	}
	for i := range d.Len() {
		out.stable = append(out.stable, d.Stable(i))
	}
	return out
}

func same(a, b picture) bool {
	return a.stamp == b.stamp && a.base == b.base && slices.Equal(a.taken, b.taken) && slices.Equal(a.waiting, b.waiting) &&
		a.count == b.count && a.pending == b.pending && a.dead == b.dead && slices.Equal(a.stable, b.stable)
}

// unchanged: a call leaves all as it was.
func unchanged(t *testing.T, what string, p *Pile, call func()) {
	t.Helper()
	was := pictureOf(p)
	call()
	if is := pictureOf(p); !same(was, is) {
		t.Fatalf("%s: changed from %v to %v", what, was, is)
	}
}

// P9.1

func TestNew(t *testing.T) {
	for _, stamp := range stamps() {
		for _, base := range stamps() {
			d, m := vdev.New(64), slab.New(64)
			p := New(d, m, stamp, base)
			if p.Dev() != d || p.Map() != m || p.Stamp() != stamp || p.Base() != base {
				t.Fatalf("New(%d, %d): %d, %d", stamp, base, p.Stamp(), p.Base())
			}
			if d.Pending() != 0 || m.Count() != 60 {
				t.Fatal("New changed its device, or its map")
			}
		}
	}
}

func TestNext(t *testing.T) {
	for _, stamp := range stamps() {
		if stamp == maxStamp {
			continue
		}
		for _, base := range stamps() {
			p := fresh(64, stamp, base)
			was := pictureOf(p)
			p.Next()
			was.stamp = stamp + 1
			if !same(was, pictureOf(p)) {
				t.Fatalf("Next of %d, %d: %v", stamp, base, pictureOf(p))
			}
		}
	}
}

func TestCommit(t *testing.T) {
	for _, stamp := range stamps() {
		if stamp == maxStamp {
			continue
		}
		for _, base := range stamps() {
			p := fresh(64, stamp, base)
			p.Commit()
			if p.Stamp() != stamp+1 || p.Base() != stamp {
				t.Fatalf("Commit of %d, %d: %d, %d", stamp, base, p.Stamp(), p.Base())
			}
		}
	}
}

func TestCommitOfMap(t *testing.T) {
	p := fresh(64, 5, 3)
	l, _ := p.Map().Many(3)
	p.Map().Later(l[0])
	p.Map().Later(l[2])
	put(t, p, []byte("abc"))
	was := pictureOf(p)
	p.Commit()
	was.stamp, was.base, was.waiting, was.count = 6, 5, nil, was.count+2
	if !same(was, pictureOf(p)) {
		t.Fatalf("Commit: %v", pictureOf(p))
	}
	// The device isn't asked to flush: what is pending still is.
	if p.Dev().Pending() != 1 {
		t.Fatalf("Pending: %d", p.Dev().Pending())
	}
}

func TestNextAndCommit(t *testing.T) {
	p := fresh(64, 5, 3)
	p.Next()
	p.Next()
	p.Commit()
	if p.Stamp() != 8 || p.Base() != 7 {
		t.Fatalf("%d, %d", p.Stamp(), p.Base())
	}
	p.Commit()
	if p.Stamp() != 9 || p.Base() != 8 {
		t.Fatalf("%d, %d", p.Stamp(), p.Base())
	}
}

func TestSharedMap(t *testing.T) {
	// The map and the device are those that were given, not others alike.
	p := fresh(64, 5, 3)
	d, m := p.Dev(), p.Map()
	if q := put(t, p, []byte("abc")); q.At != 4 || m.Count() != 59 || d.Pending() != 1 {
		t.Fatal("the map or the device isn't the one that was given")
	}
	m.Take(5)
	if q := put(t, p, nil); q.At != 6 {
		t.Fatal("what the map was told from outside doesn't count")
	}
	d.Write(4, api.Sector{9})
	if _, e := p.Get(pointer(4, 5, api.Sector{9})); e != 0 {
		t.Fatal("what the device was told from outside doesn't count")
	}
}

// P9.2

func TestPutAt(t *testing.T) {
	for _, stamp := range stamps() {
		for _, many := range []int{0, 1, 2, 64, 126, 127, 128} {
			p := fresh(128, stamp, 3)
			p.Map().Take(77)
			was := pictureOf(p)
			b := text(many, many)
			q, e := p.PutAt(77, b)
			if q != pointer(77, stamp, sector(b)) || e != 0 {
				t.Fatalf("PutAt of %d bytes at %d: %v, %v", many, stamp, q, e)
			}
			was.pending = 1
			if !same(was, pictureOf(p)) {
				t.Fatalf("PutAt changed more than a pending write: %v", pictureOf(p))
			}
			gets(t, p, q, sector(b), 0)
			p.Dev().Flush()
			if p.Dev().Stable(77) != sector(b) {
				t.Fatalf("PutAt of %d bytes wrote %v", many, p.Dev().Stable(77))
			}
		}
	}
}

func TestPutAtEachSector(t *testing.T) {
	p := fresh(1024, 5, 3)
	p.Map().Many(1020)
	for i := 4; i < 1024; i++ {
		b := text(i%129, i)
		if q, e := p.PutAt(i, b); q != pointer(i, 5, sector(b)) || e != 0 {
			t.Fatalf("PutAt(%d): %v, %v", i, q, e)
		}
	}
	for i := 4; i < 1024; i++ {
		s := sector(text(i%129, i))
		gets(t, p, pointer(i, 5, s), s, 0)
	}
}

func TestPutAtAgain(t *testing.T) {
	// Nothing of what was there ahead is left behind the bytes.
	p := fresh(64, 5, 3)
	p.Map().Take(9)
	first, _ := p.PutAt(9, text(128, 1))
	q, e := p.PutAt(9, []byte("ab"))
	if q != pointer(9, 5, sector([]byte("ab"))) || e != 0 {
		t.Fatal(q, e)
	}
	gets(t, p, q, sector([]byte("ab")), 0)
	gets(t, p, first, api.Sector{}, 91)
}

func TestPutAtTooMany(t *testing.T) {
	p := fresh(64, 5, 3)
	p.Map().Take(9)
	for _, many := range []int{129, 130, 256, 1 << 16} {
		for _, i := range append(odd(), 0, 4, 9) {
			unchanged(t, "PutAt", p, func() {
				if q, e := p.PutAt(i, make([]byte, many)); q != (api.Ptr{}) || e != 92 {
					t.Fatalf("PutAt(%d) of %d bytes: %v, %v", i, many, q, e)
				}
			})
		}
	}
	p.Dev().Break(0)
	p.Dev().Flush()
	if _, e := p.PutAt(9, make([]byte, 129)); e != 92 {
		t.Fatalf("without power: %v", e)
	}
}

func TestPutAtNotTaken(t *testing.T) {
	p := fresh(128, 5, 3)
	p.Map().Take(9)
	p.Map().Take(10)
	p.Map().Later(10)
	p.Map().Take(11)
	p.Map().Free(11)
	for _, i := range append(odd(), 0, 1, 2, 3, 4, 8, 10, 11, 63, 64, 127) {
		unchanged(t, "PutAt", p, func() {
			if q, e := p.PutAt(i, []byte("ab")); q != (api.Ptr{}) || e != 72 {
				t.Fatalf("PutAt(%d): %v, %v", i, q, e)
			}
		})
	}
	// That is told ahead of the device's error, and no Break counts it.
	p.Dev().Break(0)
	if _, e := p.PutAt(8, nil); e != 72 || p.Dev().Dead() {
		t.Fatal(e)
	}
	if _, e := p.PutAt(9, nil); e != 42 || !p.Dev().Dead() {
		t.Fatal(e)
	}
	if _, e := p.PutAt(8, nil); e != 72 {
		t.Fatal(e)
	}
}

func TestPutAtOfDevice(t *testing.T) {
	p := New(vdev.New(64), slab.New(128), 5, 3)
	p.Map().Many(124)
	for _, i := range []int{64, 65, 127} {
		unchanged(t, "PutAt", p, func() {
			if q, e := p.PutAt(i, []byte("ab")); q != (api.Ptr{}) || e != 41 {
				t.Fatalf("PutAt(%d): %v, %v", i, q, e)
			}
		})
	}
	p.Dev().Break(1)
	if _, e := p.PutAt(9, []byte("ab")); e != 0 {
		t.Fatal(e)
	}
	for range 2 {
		if q, e := p.PutAt(9, []byte("cd")); q != (api.Ptr{}) || e != 42 {
			t.Fatalf("without power: %v, %v", q, e)
		}
	}
	p.Dev().Crash(true)
	gets(t, p, pointer(9, 5, sector([]byte("ab"))), sector([]byte("ab")), 0)
}

func TestPut(t *testing.T) {
	for _, stamp := range stamps() {
		for _, many := range []int{0, 1, 2, 64, 126, 127, 128} {
			p := fresh(64, stamp, 3)
			b := text(many, many)
			q, e := p.Put(b)
			if q != pointer(4, stamp, sector(b)) || e != 0 {
				t.Fatalf("Put of %d bytes at %d: %v, %v", many, stamp, q, e)
			}
			if p.Map().Count() != 59 || p.Dev().Pending() != 1 || p.Stamp() != stamp || p.Base() != 3 {
				t.Fatalf("Put: %v", pictureOf(p))
			}
			gets(t, p, q, sector(b), 0)
		}
	}
}

func TestPutEverywhere(t *testing.T) {
	// Put goes where the map's Alloc goes, till nothing is free.
	p := fresh(200, 5, 3)
	m := p.Map().Copy()
	for i := range 196 {
		at, _ := m.Alloc()
		if q, e := p.Put([]byte{byte(i)}); q != pointer(at, 5, api.Sector{byte(i)}) || e != 0 {
			t.Fatalf("Put %d: %v, %v, not at %d", i, q, e, at)
		}
	}
	unchanged(t, "Put", p, func() {
		if q, e := p.Put(nil); q != (api.Ptr{}) || e != 71 {
			t.Fatalf("Put: %v, %v", q, e)
		}
	})
	if _, e := p.Put(make([]byte, 129)); e != 92 {
		t.Fatalf("Put of too many bytes where nothing is free: %v", e)
	}
	p.Dev().Break(0)
	if _, e := p.Put(nil); e != 71 || p.Dev().Dead() {
		t.Fatalf("Put where nothing is free, and no power: %v", e)
	}
	p.Map().Free(50)
	if _, e := p.Put(nil); e != 42 || p.Map().Count() != 1 {
		t.Fatalf("Put without power: %v", e)
	}
}

func TestPutOnNothing(t *testing.T) {
	for _, many := range []int{-1, 0, 3, 4} {
		p := fresh(many, 5, 3)
		if q, e := p.Put([]byte("ab")); q != (api.Ptr{}) || e != 71 {
			t.Fatalf("%d sectors: %v, %v", many, q, e)
		}
	}
	p := fresh(5, 5, 3)
	if q, e := p.Put(nil); q.At != 4 || e != 0 {
		t.Fatal(q, e)
	}
}

func TestPutTooMany(t *testing.T) {
	p := fresh(64, 5, 3)
	p.Dev().Break(0)
	for _, many := range []int{129, 130, 256, 1 << 16} {
		unchanged(t, "Put", p, func() {
			if q, e := p.Put(make([]byte, many)); q != (api.Ptr{}) || e != 92 {
				t.Fatalf("Put of %d bytes: %v, %v", many, q, e)
			}
		})
	}
}

func TestPutOfDevice(t *testing.T) {
	// The sector is free again, and what was taken ahead stays.
	p := New(vdev.New(64), slab.New(128), 5, 3)
	unchanged(t, "Put", p, func() {
		if q, e := p.Put([]byte("ab")); q != (api.Ptr{}) || e != 41 {
			t.Fatalf("Put: %v, %v", q, e)
		}
	})
	p = fresh(64, 5, 3)
	p.Dev().Break(1)
	put(t, p, []byte("ab"))
	for range 3 {
		if q, e := p.Put([]byte("cd")); q != (api.Ptr{}) || e != 42 {
			t.Fatalf("without power: %v, %v", q, e)
		}
		if l := p.Map().Taken(); len(l) != 1 || l[0] != (api.Span{Start: 4, Len: 1}) || len(p.Map().Waiting()) != 0 {
			t.Fatalf("taken: %v", l)
		}
	}
	p.Dev().Crash(true)
	if q := put(t, p, []byte("cd")); q.At != 5 {
		t.Fatalf("with power again: %v", q)
	}
}

func TestBirths(t *testing.T) {
	p := fresh(64, 5, 3)
	births := []uint64{put(t, p, nil).Birth}
	p.Next()
	births = append(births, put(t, p, nil).Birth)
	p.Commit()
	births = append(births, put(t, p, nil).Birth)
	if !slices.Equal(births, []uint64{5, 6, 7}) {
		t.Fatalf("births: %v", births)
	}
}

// P9.3

// The chapter's example.
func TestExample(t *testing.T) {
	p := fresh(64, 1, 0)
	q := put(t, p, []byte("hi"))
	gets(t, p, q, api.Sector{'h', 'i'}, 0)
}

func TestGetOfHole(t *testing.T) {
	p := fresh(64, 5, 3)
	p.Dev().Write(0, api.Sector{1})
	gets(t, p, api.Ptr{}, api.Sector{}, 0)
	p.Dev().Break(0)
	p.Dev().Flush()
	gets(t, p, api.Ptr{}, api.Sector{}, 0)
	gets(t, fresh(0, 5, 3), api.Ptr{}, api.Sector{}, 0)
}

func TestGetOfSectorZero(t *testing.T) {
	// A pointer that has but one field is no hole.
	p := fresh(64, 5, 3)
	zeros := pointer(0, 0, api.Sector{})
	gets(t, p, zeros, api.Sector{}, 0)
	gets(t, p, api.Ptr{Birth: 1}, api.Sector{}, 91)
	gets(t, p, api.Ptr{Sum: 1}, api.Sector{}, 91)
	gets(t, p, api.Ptr{At: 4}, api.Sector{}, 91)
	p.Dev().Write(0, api.Sector{1})
	gets(t, p, zeros, api.Sector{}, 91)
	gets(t, p, pointer(0, 0, api.Sector{1}), api.Sector{1}, 0)
}

func TestGetOfNone(t *testing.T) {
	p := fresh(128, 5, 3)
	for _, at := range odd() {
		gets(t, p, pointer(at, 5, api.Sector{}), api.Sector{}, 91)
	}
	// That a sector isn't there is told ahead of the power.
	p.Dev().Break(0)
	p.Dev().Flush()
	for _, at := range odd() {
		gets(t, p, pointer(at, 5, api.Sector{}), api.Sector{}, 91)
	}
}

func TestGetWithoutPower(t *testing.T) {
	p := fresh(64, 5, 3)
	q := put(t, p, []byte("ab"))
	p.Dev().Break(0)
	gets(t, p, q, sector([]byte("ab")), 0)
	p.Dev().Flush()
	gets(t, p, q, api.Sector{}, 42)
	q.Sum++
	gets(t, p, q, api.Sector{}, 42)
	p.Dev().Crash()
	gets(t, p, q, api.Sector{}, 91)
}

func TestGetOfAnother(t *testing.T) {
	p := fresh(64, 5, 3)
	q := put(t, p, []byte("ab"))
	r := put(t, p, []byte("cd"))
	gets(t, p, r, sector([]byte("cd")), 0)
	for bit := range 32 {
		x := q
		x.Sum ^= 1 << bit
		gets(t, p, x, api.Sector{}, 91)
	}
	gets(t, p, api.Ptr{At: r.At, Birth: 5, Sum: q.Sum}, api.Sector{}, 91)
	// When it was born isn't asked, nor what the map has of it.
	for _, birth := range stamps() {
		gets(t, p, api.Ptr{At: q.At, Birth: birth, Sum: q.Sum}, sector([]byte("ab")), 0)
	}
	p.Map().Free(q.At)
	gets(t, p, q, sector([]byte("ab")), 0)
}

func TestGetOfRotten(t *testing.T) {
	p := fresh(64, 5, 3)
	b := text(128, 3)
	q := put(t, p, b)
	for i := range 128 {
		s := sector(b)
		s[i] ^= 1 << (i % 8)
		p.Dev().Rot(q.At, s)
		gets(t, p, q, api.Sector{}, 91)
	}
	p.Dev().Rot(q.At, sector(b))
	gets(t, p, q, sector(b), 0)
}

func TestGetChangesNothing(t *testing.T) {
	p := fresh(64, 5, 3)
	q := put(t, p, []byte("ab"))
	for _, x := range []api.Ptr{{}, q, {At: 4}, {At: 64}, {At: -1}} {
		unchanged(t, "Get", p, func() { p.Get(x) })
	}
}

func TestDropOfHole(t *testing.T) {
	p := fresh(64, 5, 3)
	p.Map().Take(9)
	unchanged(t, "Drop", p, func() {
		if e := p.Drop(api.Ptr{}); e != 0 {
			t.Fatal(e)
		}
	})
}

func TestDrop(t *testing.T) {
	for _, base := range stamps() {
		for _, birth := range stamps() {
			p := fresh(128, maxStamp, base)
			p.Map().Take(9)
			p.Map().Take(77)
			if e := p.Drop(api.Ptr{At: 77, Birth: birth}); e != 0 {
				t.Fatalf("Drop: %v", e)
			}
			free, waiting := 123, []api.Span(nil)
			if birth <= base {
				free, waiting = 122, []api.Span{{Start: 77, Len: 1}}
			}
			if p.Map().Count() != free || !slices.Equal(p.Map().Waiting(), waiting) {
				t.Fatalf("Drop of one born at %d, base %d: %d free, %v waiting", birth, base, p.Map().Count(), p.Map().Waiting())
			}
			if l := p.Map().Taken(); len(l) != 1 || l[0] != (api.Span{Start: 9, Len: 1}) {
				t.Fatalf("taken: %v", l)
			}
		}
	}
}

func TestDropNotTaken(t *testing.T) {
	p := fresh(128, 5, 3)
	p.Map().Take(10)
	p.Map().Later(10)
	for _, i := range append(odd(), 0, 1, 3, 4, 10, 127) {
		for _, birth := range []uint64{1, 3, 4, 5} {
			unchanged(t, "Drop", p, func() {
				if e := p.Drop(api.Ptr{At: i, Birth: birth, Sum: 1}); e != 72 {
					t.Fatalf("Drop at %d: %v", i, e)
				}
			})
		}
	}
	// One that has but one field is no hole.
	for _, q := range []api.Ptr{{At: 4}, {Birth: 1}, {Birth: 5}, {Sum: 1}} {
		if e := p.Drop(q); e != 72 {
			t.Fatalf("Drop of %v: %v", q, e)
		}
	}
}

func TestDropAsksNoDevice(t *testing.T) {
	p := fresh(64, 5, 3)
	q, r := put(t, p, []byte("ab")), put(t, p, []byte("cd"))
	p.Dev().Break(0)
	p.Dev().Flush()
	ops := p.Dev().Ops()
	q.Sum++
	r.Birth = 3
	if p.Drop(q) != 0 || p.Drop(r) != 0 || p.Drop(q) != 72 || p.Drop(r) != 72 {
		t.Fatal("Drop without power")
	}
	if p.Dev().Ops() != ops || p.Map().Count() != 59 {
		t.Fatal("Drop asked the device")
	}
}

func TestDropBehindCommit(t *testing.T) {
	p := fresh(64, 5, 3)
	q := put(t, p, []byte("ab"))
	p.Commit()
	r := put(t, p, []byte("cd"))
	if p.Drop(q) != 0 || p.Drop(r) != 0 || p.Map().Count() != 59 {
		t.Fatalf("Drop: %d free", p.Map().Count())
	}
	p.Commit()
	if p.Map().Count() != 60 {
		t.Fatalf("Commit: %d free", p.Map().Count())
	}
}

// plain is a pile of another kind: of each sector what it is and what is on it.
type plain struct {
	is          map[int]string // "taken" or "later"; of others nothing
	on          map[int]api.Sector
	many        int // sectors of the device, and of the map
	stamp, base uint64
	dead        bool
}

// lowest: the sector that is next, of one slab.
func (p *plain) lowest() (int, bool) {
	for i := 4; i < p.many; i++ {
		if p.is[i] == "" {
			return i, true
		}
	}
	return 0, false
}

func (p *plain) put(i int, b []byte) (api.Ptr, api.Errno) {
	switch {
	case len(b) > 128:
		return api.Ptr{}, 92
	case p.is[i] != "taken":
		return api.Ptr{}, 72
	case p.dead:
		return api.Ptr{}, 42
	}
	p.on[i] = sector(b)
	return pointer(i, p.stamp, sector(b)), 0
}

func (p *plain) putSomewhere(b []byte) (api.Ptr, api.Errno) {
	i, ok := p.lowest()
	switch {
	case len(b) > 128:
		return api.Ptr{}, 92
	case !ok:
		return api.Ptr{}, 71
	case p.dead:
		return api.Ptr{}, 42
	}
	p.is[i] = "taken"
	return p.put(i, b)
}

func (p *plain) get(q api.Ptr) (api.Sector, api.Errno) {
	switch {
	case q == api.Ptr{}:
		return api.Sector{}, 0
	case q.At < 0 || q.At >= p.many:
		return api.Sector{}, 91
	case p.dead:
		return api.Sector{}, 42
	case pointer(q.At, q.Birth, p.on[q.At]) != q:
		return api.Sector{}, 91
	}
	return p.on[q.At], 0
}

func (p *plain) drop(q api.Ptr) api.Errno {
	switch {
	case q == api.Ptr{}:
		return 0
	case p.is[q.At] != "taken":
		return 72
	case q.Birth > p.base:
		delete(p.is, q.At)
	default:
		p.is[q.At] = "later"
	}
	return 0
}

func (p *plain) commit() {
	for i, is := range p.is {
		if is == "later" {
			delete(p.is, i)
		}
	}
	p.base = p.stamp
	p.stamp++
}

// free: how many sectors are nothing.
func (p *plain) free() int { return max(p.many-4, 0) - len(p.is) }

// step does one thing to a pile and to a plain one, and holds the answers
// against each other.
func step(t *testing.T, r *rand.Rand, p *Pile, x *plain, seen *[]api.Ptr) {
	t.Helper()
	one := api.Ptr{}
	if len(*seen) > 0 {
		one = (*seen)[r.Intn(len(*seen))]
	}
	b := text(r.Intn(132), r.Intn(256))
	switch r.Intn(14) {
	case 0, 1, 2, 3:
		q, e := p.Put(b)
		if q2, e2 := x.putSomewhere(b); q != q2 || e != e2 {
			t.Fatalf("Put: %v, %v, not %v, %v", q, e, q2, e2)
		}
		*seen = append(*seen, q)
	case 4, 5:
		i := r.Intn(30) - 2
		q, e := p.PutAt(i, b)
		if q2, e2 := x.put(i, b); q != q2 || e != e2 {
			t.Fatalf("PutAt: %v, %v, not %v, %v", q, e, q2, e2)
		}
		*seen = append(*seen, q)
	case 6, 7, 8:
		s, e := p.Get(one)
		if s2, e2 := x.get(one); s != s2 || e != e2 {
			t.Fatalf("Get: %v, %v, not %v, %v", s, e, s2, e2)
		}
	case 9, 10:
		if e, e2 := p.Drop(one), x.drop(one); e != e2 {
			t.Fatalf("Drop: %v, not %v", e, e2)
		}
	case 11:
		p.Next()
		x.stamp++
	case 12:
		p.Commit()
		x.commit()
	case 13:
		turnPower(r, p.Dev(), x)
	}
}

// turnPower takes the power or brings it; all that was written stays.
func turnPower(r *rand.Rand, d *vdev.Dev, x *plain) {
	switch {
	case x.dead:
		keep := make([]bool, d.Pending())
		for i := range keep {
			keep[i] = true
		}
		d.Crash(keep...)
		x.dead = false
	case r.Intn(3) == 0:
		d.Break(0)
		d.Flush()
		x.dead = true
	default:
		d.Flush()
	}
}

func TestAnyCalls(t *testing.T) {
	r := rand.New(rand.NewSource(9))
	for range 300 {
		many := r.Intn(24)
		stamp, base := uint64(r.Intn(9)), uint64(r.Intn(9))
		p := fresh(many, stamp, base)
		x := &plain{is: map[int]string{}, on: map[int]api.Sector{}, many: many, stamp: stamp, base: base}
		var seen []api.Ptr
		for range 120 {
			step(t, r, p, x, &seen)
			if p.Map().Count() != x.free() || p.Stamp() != x.stamp || p.Base() != x.base {
				t.Fatalf("%d free, %d, %d, not %d, %d, %d", p.Map().Count(), p.Stamp(), p.Base(), x.free(), x.stamp, x.base)
			}
		}
	}
}

// P1, P2 and the rules that hold everywhere

func TestAllArguments(t *testing.T) {
	nums := []uint64{0, 1, maxStamp, maxStamp + 1, math.MaxInt64, math.MaxInt64 + 1, math.MaxUint64}
	for _, stamp := range nums {
		for _, base := range nums {
			p := fresh(128, stamp, base)
			p.Map().Many(60)
			for _, i := range append(odd(), 0, 3, 4, 64, 127) {
				for _, many := range []int{0, 128, 129} {
					p.PutAt(i, make([]byte, many))
					p.Put(make([]byte, many))
				}
				for _, birth := range nums {
					p.Get(api.Ptr{At: i, Birth: birth, Sum: math.MaxUint32})
					p.Drop(api.Ptr{At: i, Birth: birth, Sum: math.MaxUint32})
				}
			}
			p.Next()
			p.Commit()
			p.Commit()
		}
	}
}

func TestArgumentsUnchanged(t *testing.T) {
	for _, many := range []int{0, 3, 127, 128, 129} {
		whole := text(300, 9)
		was := bytes.Clone(whole)
		p := fresh(64, 5, 3)
		p.Map().Take(9)
		p.Put(whole[:many])
		p.PutAt(9, whole[:many])
		if !bytes.Equal(whole, was) {
			t.Fatalf("%d bytes: changed", many)
		}
	}
}

func TestNothingKept(t *testing.T) {
	p := fresh(64, 5, 3)
	b := text(128, 9)
	was := sector(b)
	q := put(t, p, b)
	for i := range b {
		b[i] = 1
	}
	gets(t, p, q, was, 0)
	p.Dev().Flush()
	gets(t, p, q, was, 0)
	// What was answered isn't what is there.
	s, _ := p.Get(q)
	s[0]++
	gets(t, p, q, was, 0)
}

func TestPilesApart(t *testing.T) {
	p, o := fresh(64, 5, 3), fresh(64, 7, 2)
	put(t, p, []byte("ab"))
	p.Commit()
	if o.Stamp() != 7 || o.Base() != 2 || o.Map().Count() != 60 || o.Dev().Pending() != 0 {
		t.Fatal("two piles hang together")
	}
}
