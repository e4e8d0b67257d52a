package vdev

import (
	"math"
	"math/rand"
	"slices"
	"testing"

	"aquifer/api"
)

// sector: a sector that begins with a number and ends with it.
func sector(n int) api.Sector {
	s := api.Sector{byte(n), byte(n >> 8), byte(n >> 16)}
	s[api.Size-1] = byte(n)
	return s
}

// outside are numbers of sectors that a device of so many hasn't.
func outside(many int) []int {
	return []int{many, many + 1, api.MaxSectors, api.MaxSector, -1, -many, math.MinInt, math.MaxInt, 1 << 32, -1 << 32}
}

// reads: what is read of a sector.
func reads(t *testing.T, d *Dev, i int, want api.Sector) {
	t.Helper()
	if s, e := d.Read(i); s != want || e != api.OK {
		t.Errorf("Read(%d): %v %v, not %v", i, s[:3], e, want[:3])
	}
}

// stays: what is stable of a sector.
func stays(t *testing.T, d *Dev, i int, want api.Sector) {
	t.Helper()
	if s := d.Stable(i); s != want {
		t.Errorf("Stable(%d): %v, not %v", i, s[:3], want[:3])
	}
}

// refused: what a Read answers beside an error.
func refused(t *testing.T, d *Dev, i int, want api.Errno) {
	t.Helper()
	if s, e := d.Read(i); s != (api.Sector{}) || e != want {
		t.Errorf("Read(%d): %v %v, not zeros and %v", i, s[:3], e, want)
	}
}

// answers holds an error against the one that is wanted.
func answers(t *testing.T, what string, got, want api.Errno) {
	t.Helper()
	if got != want {
		t.Errorf("%s: %v, not %v", what, got, want)
	}
}

// counts holds how many writes are pending, and how many calls were counted.
func counts(t *testing.T, d *Dev, pending, ops int) {
	t.Helper()
	if d.Pending() != pending || d.Ops() != ops {
		t.Errorf("Pending %d, Ops %d, not %d and %d", d.Pending(), d.Ops(), pending, ops)
	}
}

// broken: a device of so many sectors whose power is gone, with a sector 0 that
// is stable and a write to it that is pending.
func broken(sectors int) *Dev {
	d := New(sectors)
	d.Write(0, sector(1))
	d.Flush()
	d.Write(0, sector(2))
	d.Break(0)
	d.Flush()
	return d
}

// P4.1

func TestNew(t *testing.T) {
	for _, c := range []struct{ sectors, want int }{
		{math.MinInt, 0}, {-1 << 32, 0}, {-1, 0}, {0, 0}, {1, 1}, {2, 2}, {63, 63}, {64, 64},
		{1023, 1023}, {1024, 1024}, {1025, 1024}, {4096, 1024}, {1 << 32, 1024}, {math.MaxInt, 1024},
	} {
		d := New(c.sectors)
		if d.Len() != c.want || d.Dead() {
			t.Errorf("%d: Len %d, Dead %v", c.sectors, d.Len(), d.Dead())
		}
		counts(t, d, 0, 0)
		for i := range c.want {
			stays(t, d, i, api.Sector{})
			reads(t, d, i, api.Sector{})
		}
		refused(t, d, c.want, api.ErrSector)
	}
}

func TestStable(t *testing.T) {
	d := New(3)
	for i := range 3 {
		d.Write(i, sector(i+1))
	}
	for i := range 3 {
		stays(t, d, i, api.Sector{})
	}
	d.Flush()
	d.Write(1, sector(9))
	for i := range 3 {
		stays(t, d, i, sector(i+1))
	}
	for _, i := range outside(3) {
		stays(t, d, i, api.Sector{})
	}
	d.Break(0)
	d.Flush()
	for i := range 3 {
		stays(t, d, i, sector(i+1)) // without power, too
	}
}

func TestPending(t *testing.T) {
	d := New(2)
	for i := range 5 {
		d.Write(0, sector(7)) // the same one again is one more
		counts(t, d, i+1, i+1)
	}
	d.Write(2, sector(1))
	d.Read(0)
	d.Rot(0, sector(3))
	counts(t, d, 5, 7)
	d.Break(1)
	d.Write(1, sector(1))
	d.Write(1, sector(2))
	counts(t, d, 6, 9)
	d.Flush()
	counts(t, d, 6, 10)
	d.Crash()
	counts(t, d, 0, 10)
	d.Write(1, sector(1))
	d.Flush()
	counts(t, d, 0, 12)
}

func TestDead(t *testing.T) {
	d := New(1)
	d.Break(0)
	if d.Dead() {
		t.Error("Dead ahead of the write at which it goes")
	}
	d.Write(1, sector(1))
	d.Read(0)
	d.Rot(0, sector(1))
	if d.Dead() {
		t.Error("Dead without a write or a flush")
	}
	d.Write(0, sector(1))
	if !d.Dead() {
		t.Error("not Dead behind it")
	}
	d.Crash()
	if d.Dead() {
		t.Error("Dead behind a Crash")
	}
}

// TestOps: what is counted whatever it answers, and what isn't.
func TestOps(t *testing.T) {
	d := New(2)
	for i, call := range []func(){
		func() { d.Read(0) },
		func() { d.Read(-1) },
		func() { d.Write(1, sector(1)) },
		func() { d.Write(2, sector(1)) },
		func() { d.Flush() },
		func() { d.Break(0); d.Flush() },
		func() { d.Flush() },
		func() { d.Read(0) },
		func() { d.Read(2) },
		func() { d.Write(0, sector(1)) },
		func() { d.Write(5, sector(1)) },
	} {
		d.Len()
		d.Stable(0)
		d.Stable(7)
		d.Pending()
		d.Dead()
		d.Rot(0, sector(4))
		d.Rot(9, sector(4))
		if d.Ops() != i {
			t.Fatalf("%d, not %d", d.Ops(), i)
		}
		call()
	}
	d.Crash(true, false)
	d.Break(-1)
	if d.Ops() != 11 {
		t.Error(d.Ops())
	}
}

func TestOpsStayBelow(t *testing.T) {
	for _, call := range []func(d *Dev){
		func(d *Dev) { d.Read(0) },
		func(d *Dev) { d.Write(0, sector(1)) },
		func(d *Dev) { d.Flush() },
	} {
		d := New(1)
		d.ops = 1<<62 - 3
		for _, want := range []int{1<<62 - 2, 1<<62 - 1, 1<<62 - 1, 1<<62 - 1} {
			call(d)
			if d.Ops() != want {
				t.Errorf("%d, not %d", d.Ops(), want)
			}
		}
	}
}

// P4.2

func TestReadAndWrite(t *testing.T) {
	d := New(3)
	answers(t, "Write", d.Write(1, sector(5)), api.OK)
	reads(t, d, 0, api.Sector{})
	reads(t, d, 1, sector(5))
	reads(t, d, 2, api.Sector{})
	stays(t, d, 1, api.Sector{})
	answers(t, "Flush", d.Flush(), api.OK)
	reads(t, d, 1, sector(5))
	stays(t, d, 1, sector(5))
	for n := 6; n < 9; n++ {
		d.Write(1, sector(n))
		reads(t, d, 1, sector(n))
	}
	d.Write(2, sector(4))
	reads(t, d, 1, sector(8))
	reads(t, d, 2, sector(4))
	stays(t, d, 1, sector(5))
	stays(t, d, 2, api.Sector{})
	d.Write(1, api.Sector{})
	reads(t, d, 1, api.Sector{})
	d.Flush()
	reads(t, d, 1, api.Sector{})
	stays(t, d, 1, api.Sector{})
}

// TestWholeSectors: each byte of each sector is kept, and in no other place.
func TestWholeSectors(t *testing.T) {
	d := New(api.MaxSectors)
	r := rand.New(rand.NewSource(1))
	var want [api.MaxSectors]api.Sector
	for _, i := range r.Perm(api.MaxSectors) {
		r.Read(want[i][:])
		answers(t, "Write", d.Write(i, want[i]), api.OK)
	}
	for i := range want {
		reads(t, d, i, want[i])
		stays(t, d, i, api.Sector{})
	}
	d.Flush()
	for i := range want {
		reads(t, d, i, want[i])
		stays(t, d, i, want[i])
	}
}

func TestNoSuchSector(t *testing.T) {
	for _, many := range []int{0, 1, 64, 1024} {
		d := New(many)
		for _, i := range outside(many) {
			refused(t, d, i, api.ErrSector)
			answers(t, "Write", d.Write(i, sector(1)), api.ErrSector)
			answers(t, "Rot", d.Rot(i, sector(1)), api.ErrSector)
			if d.Pending() != 0 {
				t.Errorf("%d of %d: it is pending", i, many)
			}
		}
		d.Flush()
		for i := range many {
			reads(t, d, i, api.Sector{})
		}
	}
}

// TestErrSectorFirst: without power, too, a sector that isn't there is told.
func TestErrSectorFirst(t *testing.T) {
	d := broken(3)
	for _, i := range outside(3) {
		refused(t, d, i, api.ErrSector)
		answers(t, "Write", d.Write(i, sector(1)), api.ErrSector)
		answers(t, "Rot", d.Rot(i, sector(1)), api.ErrSector)
	}
	refused(t, d, 0, api.ErrPower)
	answers(t, "Write", d.Write(0, sector(1)), api.ErrPower)
}

func TestFlush(t *testing.T) {
	d := New(3)
	answers(t, "Flush of none", d.Flush(), api.OK)
	for _, w := range []struct{ at, n int }{{0, 1}, {2, 2}, {0, 3}, {1, 4}, {2, 5}, {0, 6}} {
		d.Write(w.at, sector(w.n))
	}
	answers(t, "Flush", d.Flush(), api.OK)
	for i, n := range []int{6, 4, 5} {
		stays(t, d, i, sector(n))
		reads(t, d, i, sector(n))
	}
	d.Crash()
	for i, n := range []int{6, 4, 5} {
		stays(t, d, i, sector(n)) // what was flushed is there
	}
	d.Flush()
	d.Crash(true, true, true, true, true, true)
	for i, n := range []int{6, 4, 5} {
		stays(t, d, i, sector(n)) // and is pending no more
	}
}

// P4.3

// TestBreak: so many are done, then none, whatever they are.
func TestBreak(t *testing.T) {
	for n := range 6 {
		for kinds := range 1 << (n + 1) {
			d := New(1)
			d.Break(n)
			last, stable := api.Sector{}, api.Sector{}
			for i := range n + 1 {
				want := api.OK
				if i == n {
					want = api.ErrPower
				}
				// What doesn't reach the device uses none up.
				d.Read(0)
				d.Write(1, sector(9))
				d.Rot(1, sector(9))
				if kinds>>i&1 == 1 {
					answers(t, "Flush", d.Flush(), want)
					if i < n {
						stable = last
					}
				} else {
					answers(t, "Write", d.Write(0, sector(i+1)), want)
					if i < n {
						last = sector(i + 1)
					}
				}
				if d.Dead() != (i == n) {
					t.Fatalf("Break(%d): Dead %v at %d", n, d.Dead(), i)
				}
			}
			stays(t, d, 0, stable)
		}
	}
}

// TestNoBreak: below 0, and without one, none is refused.
func TestNoBreak(t *testing.T) {
	for _, n := range []int{-1, -2, math.MinInt, math.MinInt + 1, math.MaxInt, math.MaxInt - 1, 1 << 32, -1 << 32} {
		d := New(1)
		d.Break(n)
		for i := range 3000 {
			answers(t, "Write", d.Write(0, sector(i)), api.OK)
			answers(t, "Flush", d.Flush(), api.OK)
		}
		if d.Dead() {
			t.Errorf("Break(%d): the power is gone", n)
		}
	}
}

// TestBreakAgain: the last one counts.
func TestBreakAgain(t *testing.T) {
	for _, c := range []struct{ first, then, done int }{
		{0, 2, 2}, {2, 0, 0}, {1, 1, 1}, {5, 3, 3}, {-1, 1, 1}, {0, -1, 9}, {3, -1, 9}, {math.MinInt, 2, 2},
	} {
		d := New(1)
		d.Break(c.first)
		if c.first > 0 {
			answers(t, "Write ahead", d.Write(0, sector(1)), api.OK)
		}
		d.Break(c.then)
		done := 0
		for done < 9 && d.Write(0, sector(2)) == api.OK {
			done++
		}
		if done != c.done {
			t.Errorf("Break(%d), then Break(%d): %d are done", c.first, c.then, done)
		}
	}
}

// TestWithoutPower: nothing is done, and nothing is gone, till there is a Crash.
func TestWithoutPower(t *testing.T) {
	d := broken(2)
	for _, n := range []int{-1, 0, 1, 2, 100, math.MaxInt} {
		d.Break(n) // it gives no power back
		for range 3 {
			refused(t, d, 0, api.ErrPower)
			refused(t, d, 1, api.ErrPower)
			answers(t, "Write", d.Write(0, sector(3)), api.ErrPower)
			answers(t, "Flush", d.Flush(), api.ErrPower)
			if !d.Dead() || d.Pending() != 1 {
				t.Errorf("Break(%d): Dead %v, Pending %d", n, d.Dead(), d.Pending())
			}
		}
		stays(t, d, 0, sector(1))
	}
	d.Crash(true)
	stays(t, d, 0, sector(2))
	reads(t, d, 0, sector(2))
	stays(t, d, 1, api.Sector{})
}

// TestCrashEndsBreak: no Break from ahead of it counts, be the power gone or not.
func TestCrashEndsBreak(t *testing.T) {
	for _, ahead := range []int{0, 1, 2, 5, -1} {
		for _, behind := range []int{-1, 0, 1, 2, 7} {
			d := New(1)
			d.Break(ahead)
			d.Write(0, sector(1))
			d.Write(0, sector(2))
			d.Break(behind)
			d.Crash(true, true)
			if d.Dead() {
				t.Error("the power is gone behind a Crash")
			}
			for i := range 20 {
				answers(t, "Write", d.Write(0, sector(i)), api.OK)
				answers(t, "Flush", d.Flush(), api.OK)
				reads(t, d, 0, sector(i))
			}
		}
	}
}

func TestCrash(t *testing.T) {
	const T, F = true, false
	for i, c := range []struct {
		keep []bool
		want [3]int
	}{
		{nil, [3]int{1, 2, 0}},
		{[]bool{}, [3]int{1, 2, 0}},
		{[]bool{F, F, F, F, F}, [3]int{1, 2, 0}},
		{[]bool{T}, [3]int{11, 2, 0}},
		{[]bool{F, T}, [3]int{1, 12, 0}},
		{[]bool{F, F, T}, [3]int{13, 2, 0}},
		{[]bool{F, F, F, T}, [3]int{1, 2, 14}},
		{[]bool{F, F, F, F, T}, [3]int{1, 15, 0}},
		{[]bool{T, T}, [3]int{11, 12, 0}},
		{[]bool{T, F, T}, [3]int{13, 2, 0}},
		{[]bool{T, T, T, T, T}, [3]int{13, 15, 14}},
		{[]bool{T, T, F, F, F, T, T}, [3]int{11, 12, 0}},
		{[]bool{F, F, F, F, F, T, T, T}, [3]int{1, 2, 0}},
	} {
		d := New(3)
		d.Write(0, sector(1))
		d.Write(1, sector(2))
		d.Flush()
		for j, at := range []int{0, 1, 0, 2, 1} {
			d.Write(at, sector(11+j))
		}
		kept := slices.Clone(c.keep)
		d.Crash(c.keep...)
		for at, n := range c.want {
			stays(t, d, at, sector(n))
			reads(t, d, at, sector(n))
		}
		if d.Pending() != 0 || d.Dead() || !slices.Equal(kept, c.keep) {
			t.Errorf("%d: Pending %d, Dead %v, keep %v", i, d.Pending(), d.Dead(), c.keep)
		}
		d.Flush()
		d.Crash(true, true, true, true, true)
		for at, n := range c.want {
			stays(t, d, at, sector(n)) // what is gone doesn't come back
		}
	}
}

// TestExample is the chapter's.
func TestExample(t *testing.T) {
	d := New(2)
	d.Write(0, sector(1))
	d.Write(1, sector(2))
	d.Crash(false, true)
	reads(t, d, 0, api.Sector{})
	reads(t, d, 1, sector(2))
}

// TestCrashWithPower: it needs no Break, and none of what is pending.
func TestCrashWithPower(t *testing.T) {
	d := New(1)
	d.Crash()
	d.Crash(true, true)
	counts(t, d, 0, 0)
	d.Write(0, sector(1))
	d.Crash(true)
	d.Write(0, sector(2))
	reads(t, d, 0, sector(2))
	d.Crash(false, true)
	reads(t, d, 0, sector(1))
	counts(t, d, 0, 4)
}

// P4.4

func TestRot(t *testing.T) {
	d := New(3)
	d.Write(0, sector(1))
	d.Write(1, sector(2))
	d.Flush()
	answers(t, "Rot", d.Rot(0, sector(8)), api.OK)
	reads(t, d, 0, sector(8))
	stays(t, d, 0, sector(8))
	reads(t, d, 1, sector(2))
	stays(t, d, 1, sector(2))
	stays(t, d, 2, api.Sector{})
	answers(t, "Rot of the last", d.Rot(2, sector(9)), api.OK)
	stays(t, d, 2, sector(9))
	answers(t, "Rot to zeros", d.Rot(1, api.Sector{}), api.OK)
	reads(t, d, 1, api.Sector{})
	stays(t, d, 1, api.Sector{})
	d.Crash()
	stays(t, d, 0, sector(8)) // it needs no Flush
	counts(t, d, 0, 6)
}

// TestRotOfPending: each of the writes rots, whichever are kept; they are as
// many as ahead of it, and what is written behind it is as it is written.
func TestRotOfPending(t *testing.T) {
	for bits := range 1 << 6 {
		d := New(2)
		d.Write(0, sector(1))
		d.Write(1, sector(2))
		d.Write(0, sector(3))
		answers(t, "Rot", d.Rot(0, sector(7)), api.OK)
		if d.Pending() != 3 {
			t.Fatal(d.Pending())
		}
		stays(t, d, 0, sector(7))
		reads(t, d, 0, sector(7))
		stays(t, d, 1, api.Sector{})
		reads(t, d, 1, sector(2))
		d.Write(0, sector(4))
		d.Write(1, sector(5))
		reads(t, d, 0, sector(4))
		stays(t, d, 0, sector(7))
		want := [2]api.Sector{sector(7), {}}
		var keep []bool
		for i, w := range []struct{ at, n int }{{0, 7}, {1, 2}, {0, 7}, {0, 4}, {1, 5}} {
			keep = append(keep, bits>>i&1 == 1)
			if keep[i] {
				want[w.at] = sector(w.n)
			}
		}
		if bits>>5 == 1 {
			d.Flush()
			want = [2]api.Sector{sector(4), sector(5)}
		}
		d.Crash(keep...)
		for i, s := range want {
			stays(t, d, i, s)
			reads(t, d, i, s)
		}
	}
}

// TestRotWithoutPower: it needs none, uses no Break up and gives no power back.
func TestRotWithoutPower(t *testing.T) {
	d := broken(2)
	answers(t, "Rot", d.Rot(0, sector(6)), api.OK)
	answers(t, "Rot", d.Rot(1, sector(5)), api.OK)
	stays(t, d, 0, sector(6))
	stays(t, d, 1, sector(5))
	refused(t, d, 0, api.ErrPower)
	if !d.Dead() || d.Pending() != 1 {
		t.Error(d.Dead(), d.Pending())
	}
	d.Crash(true)
	reads(t, d, 0, sector(6))
	reads(t, d, 1, sector(5))
	d.Break(1)
	d.Rot(0, sector(4))
	d.Rot(0, sector(3))
	answers(t, "Write", d.Write(0, sector(2)), api.OK)
	answers(t, "Flush", d.Flush(), api.ErrPower)
}

// P1, P2 and the rules that hold everywhere

// plain is a device by another way than the program's: a list of all writes,
// gone through at each Read, a map of what is stable, and what is left of a
// Break counted upwards.
type plain struct {
	sectors, ops, done, bound int
	stable                    map[int]api.Sector
	log                       []write
	dead                      bool
}

func (p *plain) read(i int) (api.Sector, api.Errno) {
	p.ops++
	if i < 0 || i >= p.sectors {
		return api.Sector{}, api.ErrSector
	}
	if p.dead {
		return api.Sector{}, api.ErrPower
	}
	s := p.stable[i]
	for _, w := range p.log {
		if w.at == i {
			s = w.s
		}
	}
	return s, api.OK
}

func (p *plain) power() bool {
	if !p.dead && p.bound >= 0 && p.done == p.bound {
		p.dead = true
	}
	p.done++
	return !p.dead
}

func (p *plain) write(i int, s api.Sector) api.Errno {
	p.ops++
	if i < 0 || i >= p.sectors {
		return api.ErrSector
	}
	if !p.power() {
		return api.ErrPower
	}
	p.log = append(p.log, write{i, s})
	return api.OK
}

func (p *plain) flush() api.Errno {
	p.ops++
	if !p.power() {
		return api.ErrPower
	}
	for len(p.log) > 0 {
		p.stable[p.log[0].at] = p.log[0].s
		p.log = p.log[1:]
	}
	return api.OK
}

func (p *plain) breaks(n int) { p.bound, p.done = n, 0 }

func (p *plain) crash(keep []bool) {
	for len(p.log) > 0 && len(keep) > 0 {
		if keep[0] {
			p.stable[p.log[0].at] = p.log[0].s
		}
		p.log, keep = p.log[1:], keep[1:]
	}
	p.log, p.dead, p.bound = nil, false, -1
}

func (p *plain) rot(i int, s api.Sector) api.Errno {
	if i < 0 || i >= p.sectors {
		return api.ErrSector
	}
	p.stable[i] = s
	var log []write
	for _, w := range p.log {
		if w.at == i {
			w.s = s
		}
		log = append(log, w)
	}
	p.log = log
	return api.OK
}

// step does the same to both, and holds their answers against each other.
func step(t *testing.T, r *rand.Rand, d *Dev, p *plain, n int) {
	t.Helper()
	i, s := r.Intn(p.sectors+2)-1, sector(n)
	switch r.Intn(14) {
	case 0:
		answers(t, "Flush", d.Flush(), p.flush())
	case 1:
		answers(t, "Rot", d.Rot(i, s), p.rot(i, s))
	case 2:
		many := r.Intn(12) - 2
		d.Break(many)
		p.breaks(many)
	case 3, 4:
		var keep []bool
		for range r.Intn(12) {
			keep = append(keep, r.Intn(2) == 0)
		}
		d.Crash(keep...)
		p.crash(keep)
	case 5, 6, 7, 8:
		got, e := d.Read(i)
		if want, f := p.read(i); got != want || e != f {
			t.Fatalf("Read(%d): %v %v, not %v %v", i, got[:3], e, want[:3], f)
		}
	default:
		answers(t, "Write", d.Write(i, s), p.write(i, s))
	}
	if d.Stable(i) != p.stable[i] {
		t.Fatalf("Stable(%d): %v", i, d.Stable(i))
	}
	if d.Len() != p.sectors || d.Pending() != len(p.log) || d.Ops() != p.ops || d.Dead() != p.dead {
		t.Fatalf("Len %d, Pending %d, Ops %d, Dead %v", d.Len(), d.Pending(), d.Ops(), d.Dead())
	}
}

// TestManySteps does what comes to two devices, each with its own.
func TestManySteps(t *testing.T) {
	r := rand.New(rand.NewSource(2))
	for range 300 {
		x, y := r.Intn(6), r.Intn(6)
		d, other := New(x), New(y)
		p := &plain{sectors: x, bound: -1, stable: map[int]api.Sector{}}
		q := &plain{sectors: y, bound: -1, stable: map[int]api.Sector{}}
		for n := range 500 {
			step(t, r, d, p, n+1)
			step(t, r, other, q, n+1001)
			if t.Failed() {
				t.FailNow()
			}
		}
	}
}

// TestAllArguments: each call ends and none panics, with power and without.
func TestAllArguments(t *testing.T) {
	for _, many := range []int{math.MinInt, -1, 0, 1, 64, 1024, math.MaxInt} {
		for _, n := range []int{math.MinInt, -1, 0, 1, 63, 64, 1023, 1024, 4096, math.MaxInt} {
			d := New(many)
			for range 2 {
				d.Break(n)
				for range 3 {
					d.Read(n)
					d.Stable(n)
					d.Write(n, sector(1))
					d.Write(0, sector(1))
					d.Rot(n, sector(2))
					d.Flush()
				}
				d.Crash(make([]bool, 2000)...)
			}
		}
	}
}

// TestManyPending: there is no bound to how many writes are pending, and a Read
// doesn't cost more for it.
func TestManyPending(t *testing.T) {
	const many = 200000
	d := New(2)
	for n := range many {
		d.Write(0, sector(n))
		reads(t, d, 1, api.Sector{})
	}
	counts(t, d, many, 2*many)
	reads(t, d, 0, sector(many-1))
	keep := make([]bool, many+1)
	keep[0], keep[many-2], keep[many] = true, true, true
	d.Crash(keep...)
	reads(t, d, 0, sector(many-2))
}

// TestKeepIsNotKept: what is handed in is neither changed nor looked at again.
func TestKeepIsNotKept(t *testing.T) {
	room := []bool{true, false, true, true, false, true}
	d := New(4)
	for i := range 4 {
		d.Write(i, sector(i+1))
	}
	d.Crash(room[:3]...)
	if !slices.Equal(room, []bool{true, false, true, true, false, true}) {
		t.Error(room)
	}
	for i := range room {
		room[i] = !room[i]
	}
	for i, n := range []int{1, 0, 3, 0} { // the fourth stood in spare room alone
		reads(t, d, i, sector(n))
	}
}

// TestCopies: what was handed in, or was answered, may be written over.
func TestCopies(t *testing.T) {
	d := New(1)
	s := sector(1)
	d.Write(0, s)
	s[0] = 99
	got, _ := d.Read(0)
	got[1] = 98
	reads(t, d, 0, sector(1))
	d.Flush()
	stable := d.Stable(0)
	stable[2] = 97
	stays(t, d, 0, sector(1))
	rotten := sector(2)
	d.Rot(0, rotten)
	rotten[3] = 96
	reads(t, d, 0, sector(2))
	stays(t, d, 0, sector(2))
}
