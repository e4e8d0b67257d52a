package uber

import (
	"encoding/binary"
	"hash/crc32"
	"math"
	"math/rand"
	"slices"
	"testing"

	"aquifer/api"
	"aquifer/vdev"
)

const top = 1<<48 - 1 // MaxStamp

// one: an uber that is Right.
func one(txg uint64) api.Uber {
	return api.Uber{Txg: txg, Stamp: 7, Table: api.Ptr{At: 20, Birth: 3, Sum: 9}, Len: 300, Sectors: 128}
}

// some: any uber that is Right.
func some(r *rand.Rand) api.Uber {
	return api.Uber{
		Txg:     1 + uint64(r.Int63n(top)),
		Stamp:   1 + uint64(r.Int63n(top)),
		Table:   api.Ptr{At: 4 + r.Intn(1020), Birth: 1 + uint64(r.Int63n(top)), Sum: r.Uint32()},
		Len:     1 + r.Intn(65535),
		Sectors: 64 + r.Intn(961),
	}
}

// stampEdges, tableEdges, lenEdges and sectorEdges are what a part of an uber
// may be, its edges and what lies around them; can tells of each whether an
// uber may have it.
var stampEdges = []struct {
	n   uint64
	can bool
}{
	{0, false},
	{1, true}, {2, true}, {3, true}, {4, true}, {255, true}, {256, true}, {1 << 32, true}, {1<<47 + 1, true}, {top - 1, true}, {top, true},
	{top + 1, false}, {top + 2, false}, {1<<63 - 1, false}, {1 << 63, false}, {1<<63 + 1, false}, {math.MaxUint64 - 1, false}, {math.MaxUint64, false},
}

var tableEdges = []struct {
	p   api.Ptr
	can bool
}{
	{api.Ptr{}, false},
	{api.Ptr{At: 4, Birth: 1}, true}, {api.Ptr{At: 4, Birth: 1, Sum: math.MaxUint32}, true},
	{api.Ptr{At: 1023, Birth: top, Sum: 1}, true}, {api.Ptr{At: 64, Birth: 9, Sum: 9}, true},
	{api.Ptr{At: 1023, Birth: 1 << 40}, true}, // whether the device has that sector isn't asked
	{api.Ptr{At: 3, Birth: 1}, false}, {api.Ptr{At: 1024, Birth: 1}, false}, {api.Ptr{At: -1, Birth: 1}, false},
	{api.Ptr{Birth: 1}, false}, {api.Ptr{Sum: 1}, false}, {api.Ptr{At: 4}, false}, {api.Ptr{At: 4, Sum: 1}, false},
	{api.Ptr{At: 4, Birth: top + 1}, false}, {api.Ptr{At: 4, Birth: math.MaxUint64}, false},
	{api.Ptr{At: math.MinInt, Birth: 1}, false}, {api.Ptr{At: math.MaxInt, Birth: 1}, false}, {api.Ptr{At: 1<<32 + 4, Birth: 1}, false},
}

var lenEdges = []struct {
	n   int
	can bool
}{
	{0, false}, {-1, false}, {math.MinInt, false}, {math.MinInt + 1, false}, {-65535, false},
	{1, true}, {2, true}, {127, true}, {128, true}, {255, true}, {256, true}, {65534, true}, {65535, true},
	{65536, false}, {65537, false}, {1<<31 - 1, false}, {1 << 32, false}, {1<<32 + 1, false}, {math.MaxInt, false},
}

var sectorEdges = []struct {
	n   int
	can bool
}{
	{0, false}, {1, false}, {62, false}, {63, false}, {-1, false}, {-64, false}, {math.MinInt, false}, {math.MinInt + 64, false},
	{64, true}, {65, true}, {128, true}, {255, true}, {256, true}, {1023, true}, {1024, true},
	{1025, false}, {4096, false}, {65536 + 64, false}, {1<<32 + 64, false}, {math.MaxInt, false},
}

// everyEdge goes through ubers of those parts; right tells whether each can be.
func everyEdge(do func(u api.Uber, right bool)) {
	for i, txg := range stampEdges {
		for _, table := range tableEdges {
			for _, n := range lenEdges {
				for _, sectors := range sectorEdges {
					// Not each stamp with each group's number: of two lists of
					// edges each comes against all others, by turns.
					for j := i % 3; j < len(stampEdges); j += 3 {
						stamp := stampEdges[j]
						u := api.Uber{Txg: txg.n, Stamp: stamp.n, Table: table.p, Len: n.n, Sectors: sectors.n}
						do(u, txg.can && stamp.can && table.can && n.can && sectors.can)
					}
				}
			}
		}
	}
}

// laid is an uber as a sector, by the library, whether it can be or not.
func laid(u api.Uber) api.Sector {
	b := []byte("AQFR")
	b = binary.LittleEndian.AppendUint64(b, u.Txg)
	b = binary.LittleEndian.AppendUint64(b, u.Stamp)
	b = binary.LittleEndian.AppendUint32(b, uint32(u.Table.At))
	b = binary.LittleEndian.AppendUint64(b, u.Table.Birth)
	b = binary.LittleEndian.AppendUint32(b, u.Table.Sum)
	b = binary.LittleEndian.AppendUint32(b, uint32(u.Len))
	b = binary.LittleEndian.AppendUint32(b, uint32(u.Sectors))
	b = append(b, make([]byte, 124-len(b))...)
	return summed(api.Sector(append(b, 0, 0, 0, 0)))
}

// summed: a sector with the sum of its other bytes behind them, by the library.
func summed(s api.Sector) api.Sector {
	binary.LittleEndian.PutUint32(s[124:], crc32.Checksum(s[:124], crc32.MakeTable(crc32.Castagnoli)))
	return s
}

// there holds what Bytes and Read tell of an uber that is Right against its
// sector.
func there(t *testing.T, u api.Uber, want api.Sector) {
	t.Helper()
	if s, e := Bytes(u); e != api.OK || s != want {
		t.Errorf("Bytes(%v): %v %v, not %v", u, s, e, want)
	}
	if v, ok := Read(want); !ok || v != u {
		t.Errorf("Read(%v): %v %v, not %v", want, v, ok, u)
	}
}

// unread: there is no uber that is Right whose Bytes this is.
func unread(t *testing.T, s api.Sector) {
	t.Helper()
	if u, ok := Read(s); ok || u != (api.Uber{}) {
		t.Errorf("Read(%v): %v %v", s, u, ok)
	}
}

// commit: one that must go.
func commit(t *testing.T, d *vdev.Dev, u api.Uber) {
	t.Helper()
	if e := Commit(d, u); e != api.OK {
		t.Fatalf("Commit(%v): %v", u, e)
	}
}

// listed holds List and Best against the ubers that are to be there.
func listed(t *testing.T, d *vdev.Dev, want ...api.Uber) {
	t.Helper()
	if got := List(d); !slices.Equal(got, want) {
		t.Errorf("List: %v, not %v", got, want)
	}
	best, ok := Best(d)
	switch {
	case len(want) == 0 && (ok || best != api.Uber{}):
		t.Errorf("Best: %v %v of none", best, ok)
	case len(want) > 0 && (!ok || best != want[len(want)-1]):
		t.Errorf("Best: %v %v, not %v", best, ok, want[len(want)-1])
	}
}

// P6.1

func TestRight(t *testing.T) {
	everyEdge(func(u api.Uber, right bool) {
		if Right(u) != right {
			t.Errorf("%v: %v", u, !right)
		}
	})
	if Right(api.Uber{}) {
		t.Error("of nothing")
	}
}

// TestRightOfEachPart changes one part alone of an uber that can be.
func TestRightOfEachPart(t *testing.T) {
	ask := func(u api.Uber, want bool) {
		t.Helper()
		if Right(u) != want {
			t.Errorf("%v: %v", u, !want)
		}
	}
	ask(one(5), true)
	for _, x := range stampEdges {
		u := one(5)
		u.Txg = x.n
		ask(u, x.can)
		u = one(5)
		u.Stamp = x.n
		ask(u, x.can)
	}
	for _, x := range tableEdges {
		u := one(5)
		u.Table = x.p
		ask(u, x.can)
	}
	for n := -70000; n <= 70000; n++ {
		u := one(5)
		u.Len = n
		ask(u, n >= 1 && n <= 65535)
		u = one(5)
		u.Sectors = n
		ask(u, n >= 64 && n <= 1024)
		u = one(5)
		u.Table.At = n
		ask(u, n >= 4 && n <= 1023)
	}
}

func TestBytes(t *testing.T) {
	u := api.Uber{Txg: 0xF1F2F3F4F5F6, Stamp: 0xE1E2E3E4E5E6, Table: api.Ptr{At: 0x0203, Birth: 0xD1D2D3D4D5D6, Sum: 0xC1C2C3C4}, Len: 0xB1B2, Sectors: 0x0304}
	want := "AQFR" +
		"\xf6\xf5\xf4\xf3\xf2\xf1\x00\x00" +
		"\xe6\xe5\xe4\xe3\xe2\xe1\x00\x00" +
		"\x03\x02\x00\x00" + "\xd6\xd5\xd4\xd3\xd2\xd1\x00\x00" + "\xc4\xc3\xc2\xc1" +
		"\xb2\xb1\x00\x00" + "\x04\x03\x00\x00"
	s, e := Bytes(u)
	if e != api.OK || string(s[:44]) != want {
		t.Errorf("%q %v", s[:44], e)
	}
	for i := 44; i < 124; i++ {
		if s[i] != 0 {
			t.Errorf("byte %d: %d", i, s[i])
		}
	}
	check := crc32.Checksum(s[:124], crc32.MakeTable(crc32.Castagnoli))
	if s[124] != byte(check) || s[125] != byte(check>>8) || s[126] != byte(check>>16) || s[127] != byte(check>>24) {
		t.Errorf("%x: %v", check, s[124:])
	}
}

// TestBytesOfEveryEdge: an uber that can't be has none.
func TestBytesOfEveryEdge(t *testing.T) {
	everyEdge(func(u api.Uber, right bool) {
		s, e := Bytes(u)
		if right && (e != api.OK || s != laid(u)) {
			t.Errorf("%v: %v %v", u, s, e)
		}
		if !right && (e != api.ErrUber || s != api.Sector{}) {
			t.Errorf("%v: %v %v", u, s, e)
		}
	})
}

// TestReadOfEveryEdge: what a sector can say, its sum as it is to be, and no
// uber that is Right has.
func TestReadOfEveryEdge(t *testing.T) {
	in32 := func(n int) bool { return n >= 0 && n <= math.MaxUint32 }
	for _, u := range edges() {
		if !in32(u.Table.At) || !in32(u.Len) || !in32(u.Sectors) {
			continue // its bytes would be another's
		}
		if Right(u) {
			there(t, u, laid(u))
		} else {
			unread(t, laid(u))
		}
	}
}

// edges: ubers of which one part or two are at an edge.
func edges() []api.Uber {
	var out []api.Uber
	for _, x := range stampEdges {
		for _, y := range stampEdges {
			u := one(x.n)
			u.Stamp = y.n
			out = append(out, u)
		}
		for _, y := range tableEdges {
			u := one(x.n)
			u.Table = y.p
			out = append(out, u)
		}
	}
	for _, x := range lenEdges {
		for _, y := range sectorEdges {
			u := one(5)
			u.Len, u.Sectors = x.n, y.n
			out = append(out, u)
		}
	}
	return out
}

func TestThereAndBack(t *testing.T) {
	r := rand.New(rand.NewSource(1))
	for range 3000 {
		u := some(r)
		there(t, u, laid(u))
	}
	for place := range 48 {
		u := one(1 << place)
		there(t, u, laid(u))
		u = one(5)
		u.Stamp = 1 << place
		there(t, u, laid(u))
		u.Table.Birth = 1 << place
		there(t, u, laid(u))
		u.Table.Sum = 1 << (place % 32)
		there(t, u, laid(u))
	}
}

// TestReadOfOneByte changes each byte to each other one: the sum tells of it.
func TestReadOfOneByte(t *testing.T) {
	old := laid(one(5))
	for i := range old {
		for x := range 256 {
			s := old
			s[i] = byte(x)
			if s != old {
				unread(t, s)
			}
		}
	}
}

// TestReadOfOneByteAndItsSum does so with the sum set right: what is read has
// those bytes, what isn't read no uber has.
func TestReadOfOneByteAndItsSum(t *testing.T) {
	old := laid(one(0x0105))
	for i := range 124 {
		for x := range 256 {
			s := old
			s[i] = byte(x)
			s = summed(s)
			u := api.Uber{
				Txg:     binary.LittleEndian.Uint64(s[4:]),
				Stamp:   binary.LittleEndian.Uint64(s[12:]),
				Table:   api.Ptr{At: int(binary.LittleEndian.Uint32(s[20:])), Birth: binary.LittleEndian.Uint64(s[24:]), Sum: binary.LittleEndian.Uint32(s[32:])},
				Len:     int(binary.LittleEndian.Uint32(s[36:])),
				Sectors: int(binary.LittleEndian.Uint32(s[40:])),
			}
			if Right(u) && laid(u) == s {
				there(t, u, s)
			} else {
				unread(t, s)
			}
		}
	}
}

func TestReadOfOtherSectors(t *testing.T) {
	unread(t, api.Sector{})
	unread(t, summed(api.Sector{}))
	full := api.Sector{}
	for i := range full {
		full[i] = 0xFF
	}
	unread(t, full)
	unread(t, summed(full))
	for _, word := range []string{"AQF", "aqfr", "RFQA", "AQFS", "BQFR", "\x00\x00\x00\x00"} {
		s := laid(one(5))
		clear(s[:4])
		copy(s[:4], word)
		unread(t, summed(s))
	}
	// The sum of it all, or turned about, is no sum.
	s := laid(one(5))
	slices.Reverse(s[124:])
	unread(t, s)
	s = laid(one(5))
	binary.LittleEndian.PutUint32(s[124:], crc32.ChecksumIEEE(s[:124]))
	unread(t, s)
	s = laid(one(5))
	binary.LittleEndian.PutUint32(s[124:], crc32.Checksum(s[:44], crc32.MakeTable(crc32.Castagnoli)))
	unread(t, s)
	r := rand.New(rand.NewSource(2))
	for range 2000 {
		r.Read(s[:])
		unread(t, s)
		unread(t, summed(s))
		copy(s[:], "AQFR")
		clear(s[44:])
		unread(t, summed(s))
	}
}

// P6.2

// TestCommit: it stands in its own sector, and what was written ahead is stable.
func TestCommit(t *testing.T) {
	for _, txg := range []uint64{1, 2, 3, 4, 5, 6, 7, 8, 1 << 40, top - 3, top - 2, top - 1, top} {
		d := vdev.New(64)
		var want [64]api.Sector
		for i := range want {
			want[i] = api.Sector{byte(i), 1}
			d.Rot(i, want[i])
		}
		d.Write(9, api.Sector{9})
		d.Write(63, api.Sector{8})
		d.Write(9, api.Sector{10})
		want[9], want[63] = api.Sector{10}, api.Sector{8}
		commit(t, d, one(txg))
		want[txg%4] = laid(one(txg))
		if d.Pending() != 0 || d.Dead() {
			t.Errorf("%d: %d pending, %v", txg, d.Pending(), d.Dead())
		}
		d.Crash()
		for i := range want {
			if s, e := d.Read(i); e != api.OK || s != want[i] {
				t.Errorf("%d: sector %d: %v %v, not %v", txg, i, s, e, want[i])
			}
		}
	}
}

// TestCommitOfAny: whether it is above others isn't asked, nor whether one
// such is there.
func TestCommitOfAny(t *testing.T) {
	d := vdev.New(64)
	for _, txg := range []uint64{9, 2, 9, 5, 1, 1, 4} {
		commit(t, d, one(txg))
		if s := d.Stable(int(txg % 4)); s != laid(one(txg)) {
			t.Errorf("%d: %v", txg, s)
		}
	}
	listed(t, d, one(1), one(2), one(4))
	u := one(5)
	u.Sectors, u.Table.At, u.Len = 1024, 1023, 65535 // nor how large the device is
	commit(t, d, u)
	listed(t, d, one(2), one(4), u)
}

// TestCommitOfNone: what can't be counts nowhere, and is told ahead of all else.
func TestCommitOfNone(t *testing.T) {
	for _, u := range edges() {
		if Right(u) {
			continue
		}
		d := vdev.New(64)
		commit(t, d, one(6))
		d.Write(9, api.Sector{9})
		d.Write(2, api.Sector{2})
		d.Break(3)
		if e := Commit(d, u); e != api.ErrUber {
			t.Fatalf("%v: %v", u, e)
		}
		if d.Pending() != 2 || d.Stable(9) != (api.Sector{}) || d.Stable(2) != laid(one(6)) {
			t.Fatalf("%v: %d pending", u, d.Pending())
		}
		d.Crash()
		listed(t, d, one(6))
	}
	d := vdev.New(64)
	d.Write(9, api.Sector{9})
	d.Break(3)
	for range 10 {
		if e := Commit(d, api.Uber{}); e != api.ErrUber || d.Dead() {
			t.Error(e)
		}
	}
	for _, e := range []api.Errno{d.Flush(), d.Flush(), d.Flush()} {
		if e != api.OK {
			t.Error("it flushed:", e)
		}
	}
	if d.Flush() != api.ErrPower || Commit(d, api.Uber{}) != api.ErrUber || Commit(vdev.New(0), api.Uber{}) != api.ErrUber {
		t.Error("not ErrUber")
	}
}

// TestCommitStepByStep: the power goes at each of its three steps; what is
// stable, and what is pending, tells which were done.
func TestCommitStepByStep(t *testing.T) {
	for n := range 4 {
		d := vdev.New(64)
		commit(t, d, one(6))
		d.Write(9, api.Sector{9})
		d.Break(n)
		e := Commit(d, one(7))
		if want := n < 3; (e == api.ErrPower) != want || (e == api.OK) == want || d.Dead() != want {
			t.Errorf("Break(%d): %v, %v", n, e, d.Dead())
		}
		if flushed := n >= 1; (d.Stable(9) == api.Sector{9}) != flushed {
			t.Errorf("Break(%d): %v", n, d.Stable(9))
		}
		if done := n >= 3; (d.Stable(3) == laid(one(7))) != done {
			t.Errorf("Break(%d): %v", n, d.Stable(3))
		}
		if want := []int{1, 0, 1, 0}[n]; d.Pending() != want {
			t.Errorf("Break(%d): %d pending", n, d.Pending())
		}
		d.Crash(true)
		if n == 2 {
			listed(t, d, one(6), one(7))
		}
	}
}

// TestCommitWithoutPower: nothing is done till it is back.
func TestCommitWithoutPower(t *testing.T) {
	d := vdev.New(64)
	commit(t, d, one(6))
	d.Break(0)
	d.Flush()
	for range 3 {
		if e := Commit(d, one(7)); e != api.ErrPower {
			t.Error(e)
		}
	}
	d.Crash(true, true)
	listed(t, d, one(6))
	commit(t, d, one(7))
	listed(t, d, one(6), one(7))
}

// TestCommitWithoutSector: its sector isn't there, which comes behind the first
// Flush.
func TestCommitWithoutSector(t *testing.T) {
	for sectors := range 5 {
		for txg := uint64(1); txg < 9; txg++ {
			d := vdev.New(sectors)
			d.Write(0, api.Sector{5})
			want := api.OK
			if int(txg%4) >= sectors {
				want = api.ErrSector
			}
			if e := Commit(d, one(txg)); e != want {
				t.Errorf("%d of %d: %v", txg, sectors, e)
			}
			if d.Pending() != 0 {
				t.Errorf("%d of %d: %d pending", txg, sectors, d.Pending())
			}
			d.Break(0)
			if e := Commit(d, one(txg)); e != api.ErrPower {
				t.Errorf("%d of %d: %v", txg, sectors, e)
			}
		}
	}
}

// P6.3

// TestExample is the chapter's.
func TestExample(t *testing.T) {
	d := vdev.New(64)
	commit(t, d, one(1))
	commit(t, d, one(2))
	listed(t, d, one(1), one(2))
}

// TestRing: a fifth one takes the first one's sector.
func TestRing(t *testing.T) {
	d := vdev.New(64)
	listed(t, d)
	var want []api.Uber
	for txg := uint64(1); txg < 40; txg++ {
		commit(t, d, one(txg))
		want = append(want, one(txg))
		if len(want) > 4 {
			want = want[1:]
		}
		listed(t, d, want...)
	}
}

// TestListOfEach puts into each of the four sectors one of some things; only
// what belongs into a sector is one of its.
func TestListOfEach(t *testing.T) {
	const kinds = 6
	r := rand.New(rand.NewSource(3))
	for all := range kinds * kinds * kinds * kinds {
		d := vdev.New(64)
		var want []api.Uber
		for i := range 4 {
			kind := all % kinds
			all /= kinds
			u := some(r)
			u.Txg = u.Txg>>(3+r.Intn(43))<<2 + 4 + uint64(i)
			s := laid(u)
			switch kind {
			case 0: // none
				s = api.Sector{}
			case 1, 2, 3:
				want = append(want, u)
			case 4: // another sector's
				u.Txg += 1 + uint64(r.Intn(3))
				s = laid(u)
			case 5: // rotten
				s[r.Intn(128)] ^= 1 << r.Intn(8)
			}
			if kind == 1 {
				d.Write(i, s) // pending
			} else {
				d.Rot(i, s)
			}
		}
		slices.SortFunc(want, func(u, v api.Uber) int { return int(u.Txg) - int(v.Txg) })
		listed(t, d, want...)
	}
}

// TestListByTxg: not by sector, not by stamp, and up to the greatest.
func TestListByTxg(t *testing.T) {
	lists := [][]uint64{
		{1, 2, 3, 4}, {4, 5, 6, 7}, {3, 4, 5, 6}, {2, 3, 4, 5},
		{1, 6, 11, 16}, {13, 10, 7, 4}, {1 << 40, 1, 1<<32 + 2, 1<<31 + 3}, {top, top - 1, top - 2, top - 3}, {top, 1, 2, 4}, {255, 256, 257, 254},
	}
	for _, list := range lists {
		d := vdev.New(64)
		var want []api.Uber
		for i, txg := range list {
			u := one(txg)
			u.Stamp = uint64(100 - i)
			u.Sectors = 64 + i
			commit(t, d, u)
			want = append(want, u)
		}
		slices.SortFunc(want, func(u, v api.Uber) int { return int(u.Txg) - int(v.Txg) })
		listed(t, d, want...)
	}
}

// TestListOfTheRingAlone: what stands elsewhere is none of it.
func TestListOfTheRingAlone(t *testing.T) {
	d := vdev.New(64)
	commit(t, d, one(2))
	for i := 4; i < 64; i++ {
		d.Rot(i, laid(one(uint64(i))))
	}
	for i := 4; i < 64; i++ {
		d.Write(i, laid(one(uint64(i))))
	}
	listed(t, d, one(2))
	for i, txg := range []uint64{5, 8, 7, 6} {
		d.Rot(i, laid(one(txg)))
	}
	listed(t, d)
}

// TestListOfSmallDevices: sectors that aren't there have none.
func TestListOfSmallDevices(t *testing.T) {
	for sectors := range 5 {
		d := vdev.New(sectors)
		var want []api.Uber
		for i := range sectors {
			d.Write(i, laid(one(uint64(i+4))))
			want = append(want, one(uint64(i+4)))
		}
		listed(t, d, want...)
	}
}

// TestListOfPending: what Read tells counts, stable or not, till the power goes.
func TestListOfPending(t *testing.T) {
	d := vdev.New(64)
	commit(t, d, one(1))
	d.Write(2, laid(one(2)))
	d.Write(1, laid(one(5)))
	d.Write(3, laid(one(4))) // not its sector
	listed(t, d, one(2), one(5))
	if d.Pending() != 3 || d.Stable(2) != (api.Sector{}) || d.Stable(1) != laid(one(1)) {
		t.Error("it isn't pending any more")
	}
	d.Crash(true)
	listed(t, d, one(1), one(2))
	d.Break(0)
	listed(t, d, one(1), one(2)) // a Read is no write
	d.Flush()
	listed(t, d) // without power nothing is read
	d.Crash()
	listed(t, d, one(1), one(2))
}

// TestListOfRot: of those that are left the last one counts.
func TestListOfRot(t *testing.T) {
	d := vdev.New(64)
	for txg := uint64(3); txg < 7; txg++ {
		commit(t, d, one(txg))
	}
	s := laid(one(6))
	s[60] = 1
	d.Rot(2, s)
	listed(t, d, one(3), one(4), one(5))
	d.Rot(0, summed(s)) // a zero that isn't one, with its sum
	listed(t, d, one(3), one(5))
	d.Rot(1, api.Sector{})
	listed(t, d, one(3))
	d.Rot(3, laid(one(4)))
	listed(t, d)
	d.Rot(2, laid(one(2)))
	listed(t, d, one(2))
}

// P6.4

// cut commits u while the power goes behind n writes and flushes; of what was
// pending a crash leaves those of keep.
func cut(t *testing.T, d *vdev.Dev, u api.Uber, n int, keep ...bool) {
	t.Helper()
	d.Break(n)
	if e := Commit(d, u); e != api.ErrPower || !d.Dead() {
		t.Fatalf("Break(%d): %v", n, e)
	}
	d.Crash(keep...)
}

// TestPowerGoes: wherever it goes, and whatever the crash leaves, it is as
// ahead, or this one is there; and both come to pass.
func TestPowerGoes(t *testing.T) {
	for _, start := range [][]uint64{nil, {1}, {1, 2}, {1, 2, 3, 4}, {3, 4, 5, 6}, {9, 2, 7}, {top - 9}} {
		for _, step := range []uint64{1, 2, 3, 4, 5, 8, 9} {
			saw := map[bool]int{}
			for n := range 3 {
				for keep := range 16 {
					d := vdev.New(64)
					for _, txg := range start {
						commit(t, d, one(txg))
					}
					d.Write(40, api.Sector{1})
					d.Write(41, api.Sector{1})
					ahead, had := Best(d)
					u := one(ahead.Txg + step)
					cut(t, d, u, n, keep&1 != 0, keep&2 != 0, keep&4 != 0, keep&8 != 0)
					best, ok := Best(d)
					if best != u && (best != ahead || ok != had) {
						t.Fatalf("%v and %d, Break(%d), %d: %v %v", start, step, n, keep, best, ok)
					}
					if best == u && d.Stable(40) != (api.Sector{1}) {
						t.Fatalf("%v and %d, Break(%d), %d: it counts ahead of what was written", start, step, n, keep)
					}
					saw[best == u]++
				}
			}
			if saw[true] == 0 || saw[false] == 0 {
				t.Errorf("%v and %d: %v", start, step, saw)
			}
		}
	}
}

// TestPowerGoesOften goes on from wherever it was left.
func TestPowerGoesOften(t *testing.T) {
	r := rand.New(rand.NewSource(4))
	d := vdev.New(64)
	for range 3000 {
		ahead, _ := Best(d)
		u := some(r)
		u.Txg = ahead.Txg + 1 + uint64(r.Intn(9))
		for range r.Intn(3) {
			d.Write(4+r.Intn(60), api.Sector{byte(r.Intn(9))})
		}
		if r.Intn(3) == 0 {
			commit(t, d, u)
			if best, ok := Best(d); !ok || best != u {
				t.Fatalf("%v, not %v", best, u)
			}
			continue
		}
		cut(t, d, u, r.Intn(3), r.Intn(2) == 0, r.Intn(2) == 0, r.Intn(2) == 0)
		if best, ok := Best(d); best != u && best != ahead || ok != (best != api.Uber{}) {
			t.Fatalf("%v %v, neither %v nor %v", best, ok, ahead, u)
		}
	}
}

// P1, P2 and the rules that hold everywhere

// TestAllArguments: each call ends and none panics.
func TestAllArguments(t *testing.T) {
	devs := []*vdev.Dev{vdev.New(-1), vdev.New(0), vdev.New(1), vdev.New(3), vdev.New(4), vdev.New(64), vdev.New(5000)}
	for _, u := range edges() {
		for _, d := range devs {
			Commit(d, u)
			List(d)
			Best(d)
		}
	}
	r := rand.New(rand.NewSource(5))
	for range 5000 {
		var s api.Sector
		r.Read(s[:])
		for _, d := range devs {
			d.Rot(r.Intn(4), s)
		}
		Read(s)
		listed(t, devs[5], List(devs[5])...)
	}
}

// TestAnswersAreNew: a list may be written over, spare room too.
func TestAnswersAreNew(t *testing.T) {
	d := vdev.New(64)
	for txg := uint64(1); txg < 4; txg++ {
		commit(t, d, one(txg))
	}
	list, other := List(d), List(d)
	room := list[:cap(list)]
	for i := range room {
		room[i] = one(99)
	}
	if !slices.Equal(other, []api.Uber{one(1), one(2), one(3)}) {
		t.Error(other)
	}
	listed(t, d, one(1), one(2), one(3))
}

// TestDevicesApart: what one device has says nothing of another.
func TestDevicesApart(t *testing.T) {
	a, b := vdev.New(64), vdev.New(64)
	commit(t, a, one(1))
	commit(t, b, one(6))
	commit(t, a, one(2))
	listed(t, a, one(1), one(2))
	listed(t, b, one(6))
	listed(t, vdev.New(64))
}

// TestNothingIsKept: the same arguments have the same answers, whatever was
// called in between.
func TestNothingIsKept(t *testing.T) {
	d := vdev.New(64)
	commit(t, d, one(3))
	for range 3 {
		there(t, one(5), laid(one(5)))
		listed(t, d, one(3))
		unread(t, api.Sector{})
		Bytes(api.Uber{})
		Commit(d, api.Uber{Txg: 9})
		there(t, one(7), laid(one(7)))
	}
}
