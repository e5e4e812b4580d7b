package disk_test

import (
	"bytes"
	"fmt"
	"math"
	"math/rand"
	"testing"

	"legatee/api"
	"legatee/disk"
)

// last is the last sector that there is.
const last = api.MaxDisk - 1

// Numbers beside the sectors; the first two are those right beside them.
var noSector = []int{-1, api.MaxDisk, api.MaxDisk + 1, -2, -last, -api.MaxDisk, 1 << 32, 1<<32 + 1, math.MaxInt, math.MinInt}

// sector answers a sector that begins with text, 0 behind it.
func sector(text string) [api.Sector]byte {
	var s [api.Sector]byte
	copy(s[:], text)
	return s
}

// filled answers a sector whose bytes are all x.
func filled(x byte) [api.Sector]byte {
	var s [api.Sector]byte
	for i := range s {
		s[i] = x
	}
	return s
}

// torn answers a sector whose first n bytes are those of fresh, the others
// those of old.
func torn(old, fresh [api.Sector]byte, n int) [api.Sector]byte {
	for i := range n {
		old[i] = fresh[i]
	}
	return old
}

// write has d take that write.
func write(t *testing.T, d *disk.Disk, at int, b []byte) {
	t.Helper()
	if e := d.Write(at, b); e != api.OK {
		t.Fatalf("Write(%d, %d bytes): %d", at, len(b), e)
	}
}

// fill has d take a write whose bytes are all x.
func fill(t *testing.T, d *disk.Disk, at int, x byte) {
	t.Helper()
	s := filled(x)
	write(t, d, at, s[:])
}

// sync has d make sure what waits.
func sync(t *testing.T, d *disk.Disk) {
	t.Helper()
	if e := d.Sync(); e != api.OK {
		t.Fatalf("Sync: %d", e)
	}
}

// holds has a sector be read as read, and sure as sure.
func holds(t *testing.T, d *disk.Disk, at int, read, sure [api.Sector]byte) {
	t.Helper()
	if s := d.Read(at); s != read {
		t.Fatalf("Read(%d): %v, not %v", at, s, read)
	}
	if s := d.Sure(at); s != sure {
		t.Fatalf("Sure(%d): %v, not %v", at, s, sure)
	}
}

// stands has so many writes wait, and d be down or not.
func stands(t *testing.T, d *disk.Disk, waits int, down bool) {
	t.Helper()
	if n := d.Waits(); n != waits {
		t.Fatalf("Waits: %d, not %d", n, waits)
	}
	if d.Down() != down {
		t.Fatalf("Down: %t", !down)
	}
}

// A sight is all that a disk answers.
type sight struct {
	read, sure [api.MaxDisk][api.Sector]byte
	waits      int
	down       bool
}

// see asks d for all of that.
func see(d *disk.Disk) *sight {
	s := &sight{waits: d.Waits(), down: d.Down()}
	for at := range api.MaxDisk {
		s.read[at], s.sure[at] = d.Read(at), d.Sure(at)
	}
	return s
}

// same has d answer all that it answered before.
func same(t *testing.T, d *disk.Disk, before *sight) {
	t.Helper()
	if *see(d) != *before {
		t.Fatal("it was changed")
	}
}

// P6.1: New.
func TestNewIsEmpty(t *testing.T) {
	if *see(disk.New()) != (sight{}) {
		t.Fatal("a new disk isn't empty")
	}
	d := disk.New()
	sync(t, d)
	d.Crash(-1, 0, api.Sector)
	same(t, d, &sight{})
}

// P6.1: what is written waits for the sync, and is sure behind it.
func TestWriteWaitsForTheSync(t *testing.T) {
	for _, at := range []int{0, 1, 31, 32, 63, 64, 1023, 1024, last - 1, last} {
		d := disk.New()
		fill(t, d, at, 7)
		holds(t, d, at, filled(7), sector(""))
		stands(t, d, 1, false)
		before := see(d)
		for other := range api.MaxDisk {
			if other != at && (before.read[other] != sector("") || before.sure[other] != sector("")) {
				t.Fatalf("a write to %d changed %d", at, other)
			}
		}
		sync(t, d)
		holds(t, d, at, filled(7), filled(7))
		stands(t, d, 0, false)
		after := see(d)
		if after.read != before.read || after.sure != before.read {
			t.Fatalf("a sync of %d changed others", at)
		}
	}
}

// P6.1: all sectors are apart.
func TestEverySector(t *testing.T) {
	d := disk.New()
	for at := range api.MaxDisk {
		write(t, d, at, []byte(fmt.Sprint("sector ", at)))
	}
	stands(t, d, api.MaxDisk, false)
	for at := range api.MaxDisk {
		holds(t, d, at, sector(fmt.Sprint("sector ", at)), sector(""))
	}
	sync(t, d)
	for at := range api.MaxDisk {
		holds(t, d, at, sector(fmt.Sprint("sector ", at)), sector(fmt.Sprint("sector ", at)))
	}
}

// P6.1: bytes 0 stand behind those that are written, whatever stood there.
func TestWriteOfSoManyBytes(t *testing.T) {
	full := filled(7)
	for n := range api.Sector + 1 {
		d := disk.New()
		fill(t, d, 3, 9)
		sync(t, d)
		write(t, d, 3, full[:n])
		fresh := torn(sector(""), full, n)
		holds(t, d, 3, fresh, filled(9))
		stands(t, d, 1, false)
		sync(t, d)
		holds(t, d, 3, fresh, fresh)
	}
	d := disk.New()
	fill(t, d, 3, 9)
	write(t, d, 3, nil)
	holds(t, d, 3, sector(""), sector(""))
	stands(t, d, 2, false)
	sync(t, d)
	holds(t, d, 3, sector(""), sector(""))
}

// P6.1: there is no such sector, or the bytes are more than it has.
func TestWriteErrArg(t *testing.T) {
	d := disk.New()
	fill(t, d, 0, 1)
	fill(t, d, last, 2)
	sync(t, d)
	fill(t, d, 0, 3)
	before := see(d)
	for _, at := range noSector {
		for _, n := range []int{0, 1, api.Sector, api.Sector + 1} {
			if e := d.Write(at, make([]byte, n)); e != api.ErrArg {
				t.Fatalf("Write(%d, %d bytes): %d", at, n, e)
			}
		}
		if e := d.Write(at, nil); e != api.ErrArg {
			t.Fatalf("Write(%d, nil): %d", at, e)
		}
	}
	for _, at := range []int{0, 1, last} {
		for _, n := range []int{api.Sector + 1, api.Sector + 2, 2 * api.Sector, 256, 256 + 1, api.MaxBytes, 1 << 16} {
			if e := d.Write(at, bytes.Repeat([]byte{5}, n)); e != api.ErrArg {
				t.Fatalf("Write(%d, %d bytes): %d", at, n, e)
			}
		}
	}
	same(t, d, before)
	sync(t, d)
	holds(t, d, 0, filled(3), filled(3))
	holds(t, d, last, filled(2), filled(2))
}

// P6.1: what is no sector is 0, whatever was written.
func TestReadOfNoSector(t *testing.T) {
	d := disk.New()
	for at := range api.MaxDisk {
		fill(t, d, at, 1)
	}
	for range 2 {
		for _, at := range noSector {
			holds(t, d, at, sector(""), sector(""))
		}
		sync(t, d)
	}
	stands(t, d, 0, false)
}

// P6.1: of several writes of a sector the last one is read, and is sure behind
// the sync.
func TestSeveralWritesOfASector(t *testing.T) {
	d := disk.New()
	write(t, d, 4, []byte("first, and long"))
	write(t, d, 5, []byte("another"))
	write(t, d, 4, []byte("second"))
	stands(t, d, 3, false)
	holds(t, d, 4, sector("second"), sector(""))
	holds(t, d, 5, sector("another"), sector(""))
	write(t, d, 4, []byte("third"))
	holds(t, d, 4, sector("third"), sector(""))
	stands(t, d, 4, false)
	sync(t, d)
	holds(t, d, 4, sector("third"), sector("third"))
	holds(t, d, 5, sector("another"), sector("another"))
	write(t, d, 4, []byte("fourth"))
	holds(t, d, 4, sector("fourth"), sector("third"))
	stands(t, d, 1, false)
	sync(t, d)
	sync(t, d)
	holds(t, d, 4, sector("fourth"), sector("fourth"))
	stands(t, d, 0, false)
}

// P6.1: reads change nothing.
func TestReadsChangeNothing(t *testing.T) {
	d := disk.New()
	fill(t, d, 1, 1)
	sync(t, d)
	fill(t, d, 1, 2)
	d.Arm(1)
	before := see(d)
	for range 3 {
		same(t, d, before)
	}
	fill(t, d, 1, 3)
	if e := d.Write(1, nil); e != api.ErrDown {
		t.Fatal(e)
	}
}

// P6.1, rule 4: the bytes that are handed in are neither changed nor kept.
func TestWriteKeepsNothingOfItsBytes(t *testing.T) {
	d := disk.New()
	room := make([]byte, 2*api.Sector)
	for i := range room {
		room[i] = byte(i + 1)
	}
	b := room[:10]
	old := bytes.Clone(room)
	write(t, d, 2, b)
	if !bytes.Equal(room, old) {
		t.Fatal("the bytes were changed")
	}
	fresh := sector(string(old[:10]))
	for i := range room {
		room[i] = 200
	}
	holds(t, d, 2, fresh, sector(""))
	sync(t, d)
	holds(t, d, 2, fresh, fresh)
	write(t, d, 3, room[:api.Sector])
	clear(room)
	sync(t, d)
	holds(t, d, 3, filled(200), filled(200))
	if !bytes.Equal(room, make([]byte, len(room))) {
		t.Fatal("the bytes were changed")
	}
	write(t, d, 4, room[:api.Sector])
	room[0] = 1
	d.Crash(1, -1, 0)
	holds(t, d, 4, sector(""), sector(""))
}

// P6.1: what is answered may be changed.
func TestAnswersAreNewMemory(t *testing.T) {
	d := disk.New()
	fill(t, d, 2, 1)
	for range 2 {
		r, s := d.Read(2), d.Sure(2)
		old := s
		r[0], s[0] = 99, 99
		holds(t, d, 2, filled(1), old)
		sync(t, d)
	}
}

// P6.1: armed, it takes n more writes; the next one finds it down.
func TestArm(t *testing.T) {
	for _, n := range []int{0, 1, 2, 3, 31, 32, 33, 100} {
		d := disk.New()
		d.Arm(n)
		for i := range n {
			stands(t, d, i, false)
			write(t, d, i, []byte{1})
		}
		stands(t, d, n, false)
		before := see(d)
		for range 3 {
			if e := d.Write(0, []byte("lost")); e != api.ErrDown {
				t.Fatalf("behind %d: %d", n, e)
			}
			if e := d.Sync(); e != api.ErrDown {
				t.Fatalf("behind %d: %d", n, e)
			}
		}
		before.down = true
		same(t, d, before)
	}
}

// P6.1: less than 0 is 0.
func TestArmOfLess(t *testing.T) {
	for _, n := range []int{-1, -2, -100, math.MinInt, math.MinInt + 1} {
		d := disk.New()
		fill(t, d, 0, 1)
		d.Arm(n)
		stands(t, d, 1, false)
		if e := d.Write(1, []byte{1}); e != api.ErrDown {
			t.Fatalf("Arm(%d): %d", n, e)
		}
		stands(t, d, 1, true)
		holds(t, d, 0, filled(1), sector(""))
		holds(t, d, 1, sector(""), sector(""))
	}
}

// P6.1: a number that no writes come up to.
func TestArmOfMany(t *testing.T) {
	for _, n := range []int{5000, math.MaxInt32, 1 << 32, math.MaxInt} {
		d := disk.New()
		d.Arm(n)
		for i := range 5000 {
			write(t, d, i%api.MaxDisk, nil)
		}
		sync(t, d)
		stands(t, d, 0, false)
	}
}

// P6.1: the writes ahead of it don't count.
func TestArmCountsFromThere(t *testing.T) {
	d := disk.New()
	for range 10 {
		fill(t, d, 0, 1)
	}
	d.Arm(2)
	fill(t, d, 0, 2)
	fill(t, d, 0, 3)
	if e := d.Write(0, nil); e != api.ErrDown {
		t.Fatal(e)
	}
	stands(t, d, 12, true)
}

// P6.1: writes count alone, not syncs; a sync isn't what finds it down.
func TestArmedSync(t *testing.T) {
	d := disk.New()
	d.Arm(2)
	for range 5 {
		sync(t, d)
	}
	fill(t, d, 0, 1)
	sync(t, d)
	sync(t, d)
	fill(t, d, 1, 1)
	for range 3 {
		sync(t, d)
		stands(t, d, 0, false)
	}
	holds(t, d, 1, filled(1), filled(1))
	if e := d.Write(2, nil); e != api.ErrDown {
		t.Fatal(e)
	}
	stands(t, d, 0, true)
	if e := d.Sync(); e != api.ErrDown {
		t.Fatal(e)
	}
	d = disk.New()
	fill(t, d, 0, 1)
	d.Arm(0)
	sync(t, d)
	holds(t, d, 0, filled(1), filled(1))
	stands(t, d, 0, false)
}

// P6.1, rule 1 and 3: ErrArg comes first, and changes nothing: such a write is
// neither taken nor does it find the disk down.
func TestErrArgComesFirst(t *testing.T) {
	wrong := func(t *testing.T, d *disk.Disk) {
		t.Helper()
		for _, at := range noSector {
			if e := d.Write(at, []byte{1}); e != api.ErrArg {
				t.Fatalf("Write(%d, 1 byte): %d", at, e)
			}
		}
		if e := d.Write(0, make([]byte, api.Sector+1)); e != api.ErrArg {
			t.Fatal(e)
		}
	}
	d := disk.New()
	d.Arm(1)
	wrong(t, d)
	stands(t, d, 0, false)
	fill(t, d, 0, 1)
	wrong(t, d)
	stands(t, d, 1, false)
	if e := d.Write(0, make([]byte, api.Sector)); e != api.ErrDown {
		t.Fatal(e)
	}
	stands(t, d, 1, true)
	wrong(t, d)
	stands(t, d, 1, true)
	holds(t, d, 0, filled(1), sector(""))
}

// P6.1: armed anew, it goes down sooner.
func TestArmedAnew(t *testing.T) {
	d := disk.New()
	d.Arm(5)
	fill(t, d, 0, 1)
	d.Arm(1)
	fill(t, d, 0, 2)
	if e := d.Write(0, nil); e != api.ErrDown {
		t.Fatal(e)
	}
	stands(t, d, 2, true)
}

// P6.1: down it stays, however it is armed, till a crash.
func TestArmedWhileDown(t *testing.T) {
	d := disk.New()
	d.Arm(0)
	if e := d.Write(0, nil); e != api.ErrDown {
		t.Fatal(e)
	}
	for _, n := range []int{-1, 0, 1, 10, math.MaxInt} {
		d.Arm(n)
		stands(t, d, 0, true)
		if w, s := d.Write(0, []byte{1}), d.Sync(); w != api.ErrDown || s != api.ErrDown {
			t.Fatal(w, s)
		}
	}
	d.Crash(0, -1, 0)
	stands(t, d, 0, false)
	for i := range 100 {
		fill(t, d, i, 1)
	}
	sync(t, d)
	stands(t, d, 0, false)
}

// P6.1: what it has is read while it is down.
func TestReadWhileDown(t *testing.T) {
	d := disk.New()
	fill(t, d, 0, 1)
	sync(t, d)
	d.Arm(2)
	fill(t, d, 0, 2)
	fill(t, d, last, 3)
	if e := d.Write(0, []byte("lost")); e != api.ErrDown {
		t.Fatal(e)
	}
	holds(t, d, 0, filled(2), filled(1))
	holds(t, d, last, filled(3), sector(""))
	stands(t, d, 2, true)
	d.Crash(0b10, -1, 0)
	holds(t, d, 0, filled(1), filled(1))
	holds(t, d, last, filled(3), filled(3))
	stands(t, d, 0, false)
}

// P6.1: behind a crash it is neither down nor armed, and nothing waits.
func TestCrashDisarms(t *testing.T) {
	for _, n := range []int{0, 1, 5} {
		d := disk.New()
		d.Arm(n)
		d.Crash(0, -1, 0)
		for i := range 20 {
			fill(t, d, i, 1)
		}
		stands(t, d, 20, false)
		sync(t, d)
		d.Arm(n)
		for range n {
			fill(t, d, 0, 2)
		}
		if e := d.Write(0, nil); e != api.ErrDown {
			t.Fatal(e)
		}
		d.Crash(0, -1, 0)
		stands(t, d, 0, false)
		fill(t, d, 0, 3)
		stands(t, d, 1, false)
		sync(t, d)
		holds(t, d, 0, filled(3), filled(3))
		d.Arm(0)
		if e := d.Write(0, nil); e != api.ErrDown {
			t.Fatal(e)
		}
	}
}

// P6.1, Examples: nothing was written.
func TestCrashLosesAll(t *testing.T) {
	d := disk.New()
	write(t, d, 0, []byte("x"))
	d.Crash(0, -1, 0)
	same(t, d, &sight{})
	fill(t, d, 1, 1)
	sync(t, d)
	fill(t, d, 1, 2)
	fill(t, d, 2, 2)
	d.Crash(0, -1, api.Sector)
	holds(t, d, 1, filled(1), filled(1))
	holds(t, d, 2, sector(""), sector(""))
	stands(t, d, 0, false)
}

// P6.1: what a sync made sure, and what an earlier crash left, a crash doesn't
// change where nothing waits.
func TestCrashOfNothing(t *testing.T) {
	d := disk.New()
	fill(t, d, 0, 1)
	fill(t, d, 1, 2)
	d.Crash(0b10, -1, 0)
	fill(t, d, last, 3)
	sync(t, d)
	before := see(d)
	for _, mask := range []int{0, 1, -1, math.MinInt, math.MaxInt} {
		for _, place := range []int{-1, 0, 1, 31, 32, math.MinInt, math.MaxInt} {
			for _, cut := range []int{-1, 0, 1, api.Sector, api.Sector + 1, math.MinInt, math.MaxInt} {
				d.Crash(mask, place, cut)
			}
		}
	}
	same(t, d, before)
	// Lost writes don't come back by a later sync.
	fill(t, d, 5, 5)
	d.Crash(0, -1, 0)
	sync(t, d)
	d.Crash(-1, -1, 0)
	same(t, d, before)
}

// P6.1: each write lasts, if the mask has the bit of its place modulo 32.
func TestCrashByItsMask(t *testing.T) {
	masks := []int{0, 1, 2, 0b1010, 1 << 30, 1 << 31, 1<<32 - 1, 1 << 32, 1 << 33, 1<<32 | 4, 1 << 62, -1, -2, math.MinInt, math.MaxInt, math.MinInt | 8, 0x5A5A5A5A, ^0x5A5A5A5A}
	for i := range 32 {
		masks = append(masks, 1<<i)
	}
	for _, mask := range masks {
		for _, n := range []int{1, 31, 32, 33, 64, 65, 100} {
			d := disk.New()
			for at := range n {
				fill(t, d, at, byte(at+1))
			}
			stands(t, d, n, false)
			d.Crash(mask, -1, 7)
			stands(t, d, 0, false)
			for at := range n {
				// The lowest 32 bits, one by one, of a number that has no sign.
				want := sector("")
				if uint32(uint64(mask))&(uint32(1)<<(uint(at)&31)) != 0 {
					want = filled(byte(at + 1))
				}
				holds(t, d, at, want, want)
			}
		}
	}
}

// P6.1: a place is that among the writes that wait, not a sector, and not that
// among all writes.
func TestCrashByPlaces(t *testing.T) {
	d := disk.New()
	for range 5 {
		fill(t, d, 9, 9)
	}
	sync(t, d)
	fill(t, d, 30, 1)
	fill(t, d, 20, 2)
	fill(t, d, 10, 3)
	d.Crash(0b001, 2, 1)
	holds(t, d, 30, filled(1), filled(1))
	holds(t, d, 20, sector(""), sector(""))
	holds(t, d, 10, sector("\x03"), sector("\x03"))
	holds(t, d, 9, filled(9), filled(9))
	// Behind a crash places begin anew, too.
	fill(t, d, 20, 4)
	d.Crash(0b001, -1, 0)
	holds(t, d, 20, filled(4), filled(4))
}

// P6.1: the torn one changes its sector's first bytes alone, whatever the mask
// has of it; the place itself is not taken modulo 32.
func TestCrashTorn(t *testing.T) {
	const n = 70
	for _, place := range []int{0, 1, 31, 32, 33, 63, 64, n - 1, n, n + 1, -1, -2, -31, -32, -n, 1 << 32, 1<<32 + 1, math.MaxInt, math.MinInt} {
		for _, mask := range []int{0, -1, 1, 1 << 31} {
			d := disk.New()
			for at := range n {
				fill(t, d, at, 200)
			}
			sync(t, d)
			for at := range n {
				fill(t, d, at, byte(at+1))
			}
			d.Crash(mask, place, 10)
			for at := range n {
				want := filled(200)
				if at == place {
					want = torn(filled(200), filled(byte(at+1)), 10)
				} else if mask == -1 || mask == 1 && at%32 == 0 || mask == 1<<31 && at%32 == 31 {
					want = filled(byte(at + 1))
				}
				holds(t, d, at, want, want)
			}
			stands(t, d, 0, false)
		}
	}
}

// P6.1: so many bytes; none if it is below 0, all if it is above 64.
func TestCrashCut(t *testing.T) {
	cuts := map[int]int{-1: 0, -64: 0, math.MinInt: 0, api.Sector + 1: api.Sector, 128: api.Sector, 1 << 32: api.Sector, math.MaxInt: api.Sector}
	for n := range api.Sector + 1 {
		cuts[n] = n
	}
	for cut, n := range cuts {
		for _, mask := range []int{0, 1} {
			d := disk.New()
			fill(t, d, 0, 8)
			sync(t, d)
			fill(t, d, 0, 7)
			d.Crash(mask, 0, cut)
			want := torn(filled(8), filled(7), n)
			holds(t, d, 0, want, want)
		}
	}
}

// P6.1: the bytes 0 behind a short write are its bytes, too.
func TestCrashTornOfFewBytes(t *testing.T) {
	for _, c := range []struct {
		cut  int
		want string
	}{{0, "old old"}, {1, "nld old"}, {2, "ned old"}, {3, "new old"}, {4, "new\x00old"}, {5, "new\x00\x00ld"}, {7, "new"}, {api.Sector, "new"}} {
		d := disk.New()
		write(t, d, 1, []byte("old old"))
		sync(t, d)
		write(t, d, 1, []byte("new"))
		d.Crash(0, 0, c.cut)
		holds(t, d, 1, sector(c.want), sector(c.want))
	}
}

// P6.1: several writes of one sector last, and are torn, in their order.
func TestCrashOfSeveralWritesOfASector(t *testing.T) {
	a, b, c, old := filled(1), filled(2), filled(3), filled(9)
	for _, x := range []struct {
		mask, torn, cut int
		want            [api.Sector]byte
	}{
		{0b000, -1, 0, old},
		{0b001, -1, 0, a},
		{0b010, -1, 0, b},
		{0b011, -1, 0, b},
		{0b101, -1, 0, c},
		{0b111, -1, 0, c},
		{0b000, 0, 5, torn(old, a, 5)},
		{0b010, 0, 5, b},
		{0b100, 0, 5, c},
		{0b001, 1, 5, torn(a, b, 5)},
		{0b100, 1, 5, c},
		{0b000, 1, 5, torn(old, b, 5)},
		{0b011, 2, 5, torn(b, c, 5)},
		{0b001, 2, 63, torn(a, c, 63)},
		{0b111, 2, 0, b},
		{0b000, 2, 64, c},
		{0b110, 3, 5, c},
	} {
		d := disk.New()
		fill(t, d, 6, 9)
		sync(t, d)
		fill(t, d, 6, 1)
		fill(t, d, 6, 2)
		fill(t, d, 6, 3)
		holds(t, d, 6, c, old)
		d.Crash(x.mask, x.torn, x.cut)
		holds(t, d, 6, x.want, x.want)
	}
}

// P6.1: what a crash left is sure.
func TestCrashesInARow(t *testing.T) {
	d := disk.New()
	fill(t, d, 0, 1)
	fill(t, d, 1, 1)
	d.Crash(0b10, 0, 3)
	fill(t, d, 0, 2)
	fill(t, d, 1, 2)
	d.Crash(0, 0, 1)
	want := sector("\x02\x01\x01")
	holds(t, d, 0, want, want)
	holds(t, d, 1, filled(1), filled(1))
	d.Crash(-1, 0, api.Sector)
	holds(t, d, 0, want, want)
	fill(t, d, 0, 3)
	sync(t, d)
	d.Crash(0, 0, 0)
	holds(t, d, 0, filled(3), filled(3))
}

// P6.1, rule 8: two disks are apart.
func TestTwoDisksAreApart(t *testing.T) {
	d, e := disk.New(), disk.New()
	b := []byte("both")
	write(t, d, 0, b)
	write(t, e, 0, b)
	sync(t, d)
	holds(t, e, 0, sector("both"), sector(""))
	stands(t, e, 1, false)
	write(t, d, 0, []byte("one"))
	write(t, d, 1, []byte("one"))
	holds(t, e, 0, sector("both"), sector(""))
	holds(t, e, 1, sector(""), sector(""))
	d.Arm(0)
	if err := d.Write(0, nil); err != api.ErrDown {
		t.Fatal(err)
	}
	stands(t, d, 2, true)
	stands(t, e, 1, false)
	write(t, e, 2, b)
	e.Crash(0, -1, 0)
	stands(t, d, 2, true)
	holds(t, d, 0, sector("one"), sector("both"))
	same(t, e, &sight{})
	d.Crash(0b10, -1, 0)
	same(t, e, &sight{})
	holds(t, d, 1, sector("one"), sector("one"))
}

// A model is a disk by the words: what is sure; what was written last; the
// writes that wait; how many more are taken, -1 being any number.
type model struct {
	sight
	at    []int
	what  [][api.Sector]byte
	taken int
}

// write answers what Write is to answer, and has done it.
func (m *model) write(at int, b []byte) api.Errno {
	if at < 0 || at > last || len(b) > api.Sector {
		return api.ErrArg
	}
	m.down = m.down || m.taken == 0
	if m.down {
		return api.ErrDown
	}
	if m.taken > 0 {
		m.taken--
	}
	m.read[at] = sector(string(b))
	m.at, m.what = append(m.at, at), append(m.what, m.read[at])
	m.waits++
	return api.OK
}

// arm arms both with n, or with fewer if fewer are left.
func (m *model) arm(d *disk.Disk, n int) {
	if m.taken >= 0 {
		n = min(n, m.taken)
	}
	d.Arm(n)
	m.taken = max(0, n)
}

// sync is Sync.
func (m *model) sync() api.Errno {
	if m.down {
		return api.ErrDown
	}
	// In order, the last write of a sector is that which is read.
	m.sure = m.read
	m.at, m.what, m.waits = nil, nil, 0
	return api.OK
}

// crash is Crash.
func (m *model) crash(mask, place, cut int) {
	for i, at := range m.at {
		n := 0
		if i == place {
			n = min(api.Sector, max(0, cut))
		} else if uint64(mask)&(uint64(1)<<(i%32)) != 0 {
			n = api.Sector
		}
		m.sure[at] = torn(m.sure[at], m.what[i], n)
	}
	m.read = m.sure
	m.at, m.what, m.waits, m.down, m.taken = nil, nil, 0, false, -1
}

// near answers a number of those, or one about them.
func near(r *rand.Rand, below int) int {
	switch r.Intn(12) {
	case 0:
		return -1 - r.Intn(3)
	case 1:
		return below + r.Intn(3)
	case 2:
		return int(r.Uint64())
	}
	return r.Intn(below)
}

// P6.1: calls in many orders.
func TestManyOrders(t *testing.T) {
	for seed := range int64(60) {
		r := rand.New(rand.NewSource(seed))
		d, m := disk.New(), &model{taken: -1}
		// Few sectors have many writes of each wait; some of them are the first
		// and the last.
		few := []int{0, 1, last, last - 1, r.Intn(api.MaxDisk), r.Intn(api.MaxDisk), -1, api.MaxDisk}
		syncs := 2 + r.Intn(60)
		for step := range 400 {
			switch k := r.Intn(syncs + 8); {
			case k == 0:
				if a, b := d.Sync(), m.sync(); a != b {
					t.Fatalf("%d %d: Sync: %d, not %d", seed, step, a, b)
				}
			case k == 1:
				mask, place, cut := int(r.Uint64()), near(r, m.waits+1), near(r, api.Sector+1)
				d.Crash(mask, place, cut)
				m.crash(mask, place, cut)
			case k == 2:
				m.arm(d, near(r, 10))
			default:
				at := few[r.Intn(len(few))]
				if r.Intn(4) == 0 {
					at = near(r, api.MaxDisk)
				}
				b := make([]byte, max(0, min(near(r, api.Sector+1), 100)))
				r.Read(b)
				if x, y := d.Write(at, b), m.write(at, b); x != y {
					t.Fatalf("%d %d: Write(%d, %d bytes): %d, not %d", seed, step, at, len(b), x, y)
				}
				clear(b)
			}
			stands(t, d, m.waits, m.down)
			for _, at := range few[:6] {
				holds(t, d, at, m.read[at], m.sure[at])
			}
			if step%20 == 0 {
				same(t, d, &m.sight)
			}
		}
		same(t, d, &m.sight)
	}
}

// P0: whatever is handed in, every call ends, and none panics.
func TestNoPanic(t *testing.T) {
	odd := []int{math.MinInt, math.MinInt + 1, -1 << 32, -api.MaxDisk, -65, -64, -33, -32, -2, -1, 0, 1, 2, 31, 32, 33, 63, 64, 65, last, api.MaxDisk, 1 << 31, 1 << 32, 1 << 62, math.MaxInt - 1, math.MaxInt}
	for _, x := range odd {
		d := disk.New()
		for _, y := range odd {
			for _, z := range odd {
				for i := range 3 {
					d.Write(x, nil)
					d.Write(y, make([]byte, i*33))
					d.Write(i, []byte{1})
				}
				d.Read(x)
				d.Sure(x)
				d.Crash(x, y, z)
			}
			d.Arm(y)
			d.Write(y, nil)
			d.Sync()
			d.Crash(y, x, y)
		}
	}
}
