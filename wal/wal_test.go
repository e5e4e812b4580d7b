package wal_test

import (
	"bytes"
	"encoding/binary"
	"fmt"
	"hash/crc32"
	"math"
	"math/rand"
	"testing"

	"legatee/api"
	"legatee/disk"
	"legatee/wal"
)

// piece is how many bytes of a record a sector has.
const piece = 52

// most is how many sectors the longest record takes.
const most = 58

type sector = [api.Sector]byte

// Masks of several kinds: which of the writes that wait last.
var masks = []int{0, -1, 1, 2, 0b10101010, 0b01010101, 0b1100, ^1, 1 << 31}

// lengths are those that the words make something of, and others.
var lengths = []int{0, 1, 2, 51, 52, 53, 103, 104, 105, 156, 157, 200, 1000, 57 * piece, 57*piece + 1, 2999, api.MaxBytes}

// text answers n bytes, none of them 0; those of another seed differ at each
// place.
func text(seed, n int) []byte {
	b := make([]byte, n)
	for i := range b {
		b[i] = byte(1 + (seed*7+i*5+i/piece)%255)
	}
	return b
}

// texts answers one such record of each length.
func texts(lengths ...int) [][]byte {
	var l [][]byte
	for i, n := range lengths {
		l = append(l, text(i+1, n))
	}
	return l
}

// seal answers a sector's first 59 bytes with what stands behind them.
func seal(s sector) sector {
	binary.LittleEndian.PutUint32(s[59:], crc32.ChecksumIEEE(s[:59]))
	s[63] = 1
	return s
}

// lay answers a record's sectors, by the document's words.
func lay(number int, b []byte) []sector {
	count := max(1, (len(b)+piece-1)/piece)
	var l []sector
	for place := range count {
		part := b[place*piece : min(len(b), (place+1)*piece)]
		var s sector
		binary.BigEndian.PutUint32(s[:], uint32(number))
		s[4], s[5], s[6] = byte(place), byte(count), byte(len(part))
		copy(s[7:], part)
		l = append(l, seal(s))
	}
	return l
}

// layAll answers the sectors of records, from the first one on.
func layAll(records [][]byte) []sector {
	var l []sector
	for i, b := range records {
		l = append(l, lay(i+1, b)...)
	}
	return l
}

// store has those sectors be sure, from at on.
func store(t *testing.T, d *disk.Disk, at int, l ...sector) {
	t.Helper()
	for i, s := range l {
		if e := d.Write(at+i, s[:]); e != api.OK {
			t.Fatalf("Write(%d): %d", at+i, e)
		}
	}
	if e := d.Sync(); e != api.OK {
		t.Fatalf("Sync: %d", e)
	}
}

// image answers all sectors as they are read.
func image(d *disk.Disk) *[api.MaxDisk]sector {
	var l [api.MaxDisk]sector
	for at := range l {
		l[at] = d.Read(at)
	}
	return &l
}

// has holds the records against those that are wanted.
func has(t *testing.T, records, want [][]byte) {
	t.Helper()
	if len(records) != len(want) {
		t.Fatalf("%d records, not %d", len(records), len(want))
	}
	for i, b := range records {
		if !bytes.Equal(b, want[i]) {
			t.Fatalf("record %d: %d bytes %v, not %d bytes %v", i+1, len(b), b, len(want[i]), want[i])
		}
	}
}

// counts has a log be of so many records, and have so many sectors free.
func counts(t *testing.T, l *wal.Log, records, room int) {
	t.Helper()
	if l.Len() != records || l.Room() != room {
		t.Fatalf("Len, Room: %d, %d, not %d, %d", l.Len(), l.Room(), records, room)
	}
}

// opens has the disk's log have those records, and answers it.
func opens(t *testing.T, d *disk.Disk, want [][]byte) *wal.Log {
	t.Helper()
	l, records, e := wal.Open(d)
	if e != api.OK || l == nil {
		t.Fatalf("Open: %v, %d", l, e)
	}
	has(t, records, want)
	counts(t, l, len(want), api.MaxDisk-len(layAll(want)))
	if d.Waits() != 0 {
		t.Fatalf("behind Open %d writes wait", d.Waits())
	}
	return l
}

// stands has the disk have the sectors of those records, and 0 behind them, all
// of that sure.
func stands(t *testing.T, d *disk.Disk, want [][]byte) {
	t.Helper()
	if d.Waits() != 0 {
		t.Fatalf("%d writes wait", d.Waits())
	}
	l := layAll(want)
	for at := range api.MaxDisk {
		var s sector
		if at < len(l) {
			s = l[at]
		}
		if d.Sure(at) != s || d.Read(at) != s {
			t.Fatalf("sector %d: %v, sure %v, not %v", at, d.Read(at), d.Sure(at), s)
		}
	}
}

// refuses has a call answer an error and nothing else.
func refuses(t *testing.T, d *disk.Disk, want api.Errno) {
	t.Helper()
	if l, records, e := wal.Open(d); l != nil || len(records) != 0 || e != want {
		t.Fatalf("Open: %v, %d records, %d, not %d", l, len(records), e, want)
	}
}

// put has the log take those records.
func put(t *testing.T, l *wal.Log, records ...[]byte) {
	t.Helper()
	for _, b := range records {
		records, room := l.Len(), l.Room()
		if e := l.Put(b); e != api.OK {
			t.Fatalf("Put of %d bytes: %d", len(b), e)
		}
		counts(t, l, records+1, room-len(lay(1, b)))
	}
}

// fresh answers an empty disk, and its log with those records.
func fresh(t *testing.T, records ...[]byte) (*disk.Disk, *wal.Log) {
	t.Helper()
	d := disk.New()
	l := opens(t, d, nil)
	put(t, l, records...)
	return d, l
}

// goDown has the disk be down, with nothing changed.
func goDown(t *testing.T, d *disk.Disk) {
	t.Helper()
	d.Arm(0)
	if e := d.Write(0, nil); e != api.ErrDown || !d.Down() {
		t.Fatal(e)
	}
}

// P7.1: Pieces.
func TestPieces(t *testing.T) {
	for n, want := range map[int]int{
		0: 1, 1: 1, 2: 1, 51: 1, 52: 1, 53: 2, 103: 2, 104: 2, 105: 3, 156: 3, 157: 4,
		2999: 58, 3000: 58, 3001: 58, 58 * 52: 58, 58*52 + 1: 59,
		255 * 52: 255, 256 * 52: 256, 256*52 + 1: 257, 1 << 32: 82595525, 1 << 40: 1<<40/52 + 1,
		math.MaxInt: math.MaxInt/52 + 1, math.MaxInt - 1: (math.MaxInt-1)/52 + 1,
		-1: 1, -2: 1, -51: 1, -52: 1, -53: 1, -3000: 1, -1 << 40: 1, math.MinInt: 1, math.MinInt + 1: 1,
	} {
		if got := wal.Pieces(n); got != want {
			t.Errorf("Pieces(%d): %d, not %d", n, got, want)
		}
	}
	for n := range 20000 {
		if got := wal.Pieces(n); got != max(1, (n+51)/52) {
			t.Fatalf("Pieces(%d): %d", n, got)
		}
	}
}

// P7.1: a new disk's log.
func TestEmptyLog(t *testing.T) {
	d := disk.New()
	opens(t, d, nil)
	counts(t, opens(t, d, nil), 0, api.MaxDisk)
	stands(t, d, nil)
}

// P7.1: a record's sectors, byte by byte.
func TestSectorBytes(t *testing.T) {
	d, l := fresh(t, []byte("abc"))
	var want sector
	copy(want[:], "\x00\x00\x00\x01\x00\x01\x03abc")
	sum := crc32.ChecksumIEEE(want[:59])
	want[59], want[60], want[61], want[62] = byte(sum), byte(sum>>8), byte(sum>>16), byte(sum>>24)
	want[63] = 1
	if got := d.Sure(0); got != want {
		t.Fatalf("%v, not %v", got, want)
	}
	put(t, l, text(1, 53))
	first, second := d.Sure(1), d.Sure(2)
	if !bytes.Equal(first[:7], []byte{0, 0, 0, 2, 0, 2, 52}) || !bytes.Equal(first[7:59], text(1, 53)[:52]) || first[63] != 1 {
		t.Fatal(first)
	}
	if !bytes.Equal(second[:8], []byte{0, 0, 0, 2, 1, 2, 1, text(1, 53)[52]}) || !bytes.Equal(second[8:59], make([]byte, 51)) || second[63] != 1 {
		t.Fatal(second)
	}
	stands(t, d, [][]byte{[]byte("abc"), text(1, 53)})
}

// P7.1: a record of each length stands as the words say, and comes back.
func TestOneRecord(t *testing.T) {
	for n := range 4 * piece {
		b := text(n, n)
		d, l := fresh(t, b)
		counts(t, l, 1, api.MaxDisk-wal.Pieces(n))
		stands(t, d, [][]byte{b})
		opens(t, d, [][]byte{b})
	}
	for _, n := range lengths {
		for _, b := range [][]byte{text(n, n), make([]byte, n), bytes.Repeat([]byte{255}, n), bytes.Repeat([]byte{1}, n)} {
			d, l := fresh(t, b)
			counts(t, l, 1, api.MaxDisk-wal.Pieces(n))
			stands(t, d, [][]byte{b})
			opens(t, d, [][]byte{b})
			stands(t, d, [][]byte{b})
		}
	}
}

// P7.1: several records come back in their order.
func TestRecordsInOrder(t *testing.T) {
	all := texts(lengths...)
	d, l := fresh(t)
	for i, b := range all {
		put(t, l, b)
		counts(t, l, i+1, api.MaxDisk-len(layAll(all[:i+1])))
		stands(t, d, all[:i+1])
		opens(t, d, all[:i+1])
	}
	opens(t, d, all)
	d.Crash(0, 0, 0)
	opens(t, d, all)
	stands(t, d, all)
}

// P7.1: the same bytes put again are another record.
func TestSameRecordAgain(t *testing.T) {
	for _, b := range [][]byte{nil, {}, {0}, []byte("same"), text(1, 60)} {
		d, l := fresh(t, b, b, b)
		counts(t, l, 3, api.MaxDisk-3*wal.Pieces(len(b)))
		stands(t, d, [][]byte{b, b, b})
		opens(t, d, [][]byte{b, b, b})
	}
}

// P7.1: opened again at each turn, its records follow those ahead.
func TestPutBehindAnOpen(t *testing.T) {
	d := disk.New()
	var all [][]byte
	for i, n := range lengths {
		l := opens(t, d, all)
		all = append(all, text(i, n))
		put(t, l, all[i])
		stands(t, d, all)
	}
	opens(t, d, all)
}

// P7.1: numbers of more than one byte, and a log of as many records as there
// are sectors.
func TestAsManyRecordsAsSectors(t *testing.T) {
	d, l := fresh(t)
	var all [][]byte
	for i := range api.MaxDisk {
		counts(t, l, i, api.MaxDisk-i)
		all = append(all, text(i, i%(piece+1)))
		put(t, l, all[i])
	}
	counts(t, l, api.MaxDisk, 0)
	if e := l.Put(nil); e != api.ErrFull {
		t.Fatal(e)
	}
	counts(t, l, api.MaxDisk, 0)
	stands(t, d, all)
	for i, number := range map[int]string{0: "\x00\x00\x00\x01", 254: "\x00\x00\x00\xff", 255: "\x00\x00\x01\x00", 256: "\x00\x00\x01\x01", 2047: "\x00\x00\x08\x00"} {
		if s := d.Sure(i); string(s[:4]) != number {
			t.Fatalf("record %d: %v", i+1, s)
		}
	}
	l = opens(t, d, all)
	if e := l.Put([]byte{1}); e != api.ErrFull {
		t.Fatal(e)
	}
	stands(t, d, all)
}

// P7.1: a record that just fits, and one that doesn't.
func TestFullDisk(t *testing.T) {
	for free := 1; free <= most+1; free++ {
		var all [][]byte
		d, l := fresh(t)
		for l.Room() >= free+most {
			all = append(all, text(len(all), api.MaxBytes))
			put(t, l, all[len(all)-1])
		}
		for l.Room() > free {
			all = append(all, text(len(all), 3))
			put(t, l, all[len(all)-1])
		}
		counts(t, l, len(all), free)
		for _, n := range []int{free*piece + 1, (free + 1) * piece, api.MaxBytes} {
			if n > api.MaxBytes || wal.Pieces(n) <= free {
				continue
			}
			if e := l.Put(text(9, n)); e != api.ErrFull {
				t.Fatalf("Put of %d bytes, %d free: %d", n, free, e)
			}
			counts(t, l, len(all), free)
		}
		stands(t, d, all)
		b := text(5, min(free*piece, api.MaxBytes))
		put(t, l, b)
		all = append(all, b)
		counts(t, l, len(all), free-wal.Pieces(len(b)))
		stands(t, d, all)
		opens(t, d, all)
	}
}

// P7.1: more than MaxBytes.
func TestErrLong(t *testing.T) {
	all := [][]byte{text(1, 60)}
	d, l := fresh(t, all...)
	for _, n := range []int{api.MaxBytes + 1, api.MaxBytes + 2, most * piece, most*piece + 1, 256 * piece, 256*piece + 1, 1 << 16, 1<<16 + 1, 1 << 20} {
		d.Arm(0)
		if e := l.Put(make([]byte, n)); e != api.ErrLong {
			t.Fatalf("Put of %d bytes: %d", n, e)
		}
		if d.Down() {
			t.Fatal("it was written")
		}
		counts(t, l, 1, api.MaxDisk-2)
		stands(t, d, all)
	}
	d.Crash(0, -1, 0)
	all = append(all, text(2, api.MaxBytes))
	put(t, l, all[1])
	stands(t, d, all)
	opens(t, d, all)
}

// P7.1, rule 1: which of two errors comes first.
func TestFirstError(t *testing.T) {
	var all [][]byte
	d, l := fresh(t)
	for l.Room() >= most {
		all = append(all, text(len(all), api.MaxBytes))
		put(t, l, all[len(all)-1])
	}
	room := l.Room()
	long, full, fits := make([]byte, api.MaxBytes+1), make([]byte, room*piece+1), make([]byte, room*piece)
	for _, down := range []bool{false, true} {
		if down {
			goDown(t, d)
			if e := l.Put(fits); e != api.ErrDown {
				t.Fatal(e)
			}
			if e := l.Put(nil); e != api.ErrDown {
				t.Fatal(e)
			}
		}
		if e := l.Put(long); e != api.ErrLong {
			t.Fatal(e)
		}
		if e := l.Put(full); e != api.ErrFull {
			t.Fatal(e)
		}
		counts(t, l, len(all), room)
	}
	// All is free, or nothing is: too long comes first.
	d.Crash(0, -1, 0)
	put(t, l, fits)
	all = append(all, fits)
	for range 2 {
		if e := l.Put(long); e != api.ErrLong {
			t.Fatal(e)
		}
		if e := l.Put(nil); e != api.ErrFull {
			t.Fatal(e)
		}
		goDown(t, d)
	}
	d.Crash(0, -1, 0)
	opens(t, d, all)
	stands(t, d, all)
}

// P7.1: a disk that goes down at a write of a Put: the log is as it was, and so
// is what is sure; the sectors are written in order.
func TestPutGoesDown(t *testing.T) {
	all := texts(60, 0, 200)
	end := len(layAll(all))
	for _, n := range []int{0, 1, 52, 53, 104, 150, 200, api.MaxBytes} {
		b := text(9, n)
		want := lay(len(all)+1, b)
		for taken := range want {
			d, l := fresh(t, all...)
			d.Arm(taken)
			if e := l.Put(b); e != api.ErrDown {
				t.Fatalf("Put of %d bytes, %d writes: %d", n, taken, e)
			}
			counts(t, l, len(all), api.MaxDisk-end)
			if d.Waits() != taken || !d.Down() {
				t.Fatalf("%d writes wait, not %d", d.Waits(), taken)
			}
			for place, s := range want {
				if place >= taken {
					s = sector{}
				}
				if d.Read(end+place) != s || d.Sure(end+place) != (sector{}) {
					t.Fatalf("%d taken, place %d: %v, not %v", taken, place, d.Read(end+place), s)
				}
			}
			if e := l.Put(b); e != api.ErrDown || d.Waits() != taken {
				t.Fatal(e, d.Waits())
			}
			refuses(t, d, api.ErrDown)
			d.Crash(0, -1, 0)
			stands(t, d, all)
			counts(t, l, len(all), api.MaxDisk-end)
			put(t, l, b)
			counts(t, l, len(all)+1, api.MaxDisk-end-len(want))
			more := append(all[:len(all):len(all)], b)
			stands(t, d, more)
			opens(t, d, more)
		}
		// So many writes it takes, and no more.
		d, l := fresh(t, all...)
		d.Arm(len(want))
		put(t, l, b)
		if d.Down() {
			t.Fatal("it is down")
		}
		counts(t, l, len(all)+1, api.MaxDisk-end-len(want))
		if e := d.Write(0, nil); e != api.ErrDown {
			t.Fatal("it took fewer writes")
		}
		d.Crash(0, -1, 0)
		opens(t, d, append(all[:len(all):len(all)], b))
	}
}

// P7.1: a Put that had ErrDown leaves what another Put takes the place of, even
// where parts of it last.
func TestPutBehindAPutThatWentDown(t *testing.T) {
	all := texts(10, 80)
	for _, n := range []int{0, 52, 53, 104, 150, 200, 260} {
		d, l := fresh(t, all...)
		d.Arm(3)
		if e := l.Put(text(8, 200)); e != api.ErrDown {
			t.Fatal(e)
		}
		d.Crash(-1, -1, 0)
		b := text(9, n)
		put(t, l, b)
		more := append(all[:2:2], b)
		counts(t, l, 3, api.MaxDisk-len(layAll(more)))
		l = opens(t, d, more)
		stands(t, d, more)
		put(t, l, text(1, 70))
		stands(t, d, append(more, text(1, 70)))
	}
}

// P7.1: a disk that holds other bytes is wiped, each sector of it that isn't 0.
func TestOpenOnOtherBytes(t *testing.T) {
	full := bytes.Repeat([]byte{255}, api.Sector)
	ones := bytes.Repeat([]byte{1}, api.Sector)
	random := rand.New(rand.NewSource(1))
	for _, places := range [][]int{{0}, {1}, {5}, {api.MaxDisk - 1}, {0, api.MaxDisk - 1}, {3, 4, 5, 100, 1023, 1024, 2000}, {0, 1, 2, 3, 4}} {
		for _, b := range [][]byte{full, ones, {1}, make([]byte, 0), text(1, 64), append(make([]byte, 63), 1), append(make([]byte, 63), 255), append(make([]byte, 30), 9), append([]byte{0, 0, 0, 1, 0, 0, 0}, text(3, 57)...)} {
			d := disk.New()
			for _, at := range places {
				var s sector
				copy(s[:], b)
				if len(b) == 0 {
					random.Read(s[:])
				}
				store(t, d, at, s)
			}
			l := opens(t, d, nil)
			stands(t, d, nil)
			put(t, l, []byte("first"))
			stands(t, d, [][]byte{[]byte("first")})
		}
	}
	for range 20 {
		d := disk.New()
		for at := range api.MaxDisk {
			var s sector
			random.Read(s[:])
			store(t, d, at, s)
		}
		opens(t, d, nil)
		stands(t, d, nil)
	}
}

// P7.1: other bytes behind records are wiped, and the records stay.
func TestOpenOnOtherBytesBehind(t *testing.T) {
	all := texts(60, 0, 52, 300)
	end := len(layAll(all))
	random := rand.New(rand.NewSource(2))
	for _, at := range []int{end, end + 1, end + 7, 1000, api.MaxDisk - 1} {
		d, _ := fresh(t, all...)
		for range 3 {
			var s sector
			random.Read(s[:])
			store(t, d, at, s)
			store(t, d, api.MaxDisk-2, s)
			opens(t, d, all)
			stands(t, d, all)
		}
	}
}

// P7.1: what is behind the last whole record is wiped rising, no other sector is
// written, and ErrDown is answered if a write has it.
func TestOpenWipesRising(t *testing.T) {
	all := texts(60, 0, 110)
	end := len(layAll(all))
	places := []int{end, end + 2, end + 3, end + 9, 100, 1999, api.MaxDisk - 1}
	set := func() *disk.Disk {
		d, _ := fresh(t, all...)
		for i, at := range places {
			var s sector
			s[i*9] = byte(i + 1)
			store(t, d, at, s)
		}
		return d
	}
	for taken := range places {
		d := set()
		before := image(d)
		d.Arm(taken)
		refuses(t, d, api.ErrDown)
		if d.Waits() != taken || !d.Down() {
			t.Fatalf("%d writes wait, not %d", d.Waits(), taken)
		}
		after := image(d)
		for _, at := range places[:taken] {
			before[at] = sector{}
		}
		if *after != *before {
			t.Fatalf("behind %d writes other sectors are wiped", taken)
		}
		for _, at := range places {
			if d.Sure(at) == (sector{}) {
				t.Fatalf("sector %d is wiped without a sync", at)
			}
		}
		refuses(t, d, api.ErrDown)
		d.Crash(0, -1, 0)
		opens(t, d, all)
		stands(t, d, all)
	}
	d := set()
	d.Arm(len(places))
	opens(t, d, all)
	stands(t, d, all)
	if d.Down() {
		t.Fatal("it took more writes")
	}
	if e := d.Write(0, nil); e != api.ErrDown {
		t.Fatal("it took fewer writes")
	}
}

// P7.1: a log that needs no wiping takes no writes; its sync tells of a disk
// that is down.
func TestOpenOnADiskThatIsDown(t *testing.T) {
	for _, all := range [][][]byte{nil, texts(0), texts(60, 0, 110)} {
		d, _ := fresh(t, all...)
		d.Arm(0)
		opens(t, d, all)
		if d.Down() {
			t.Fatal("it was written")
		}
		goDown(t, d)
		refuses(t, d, api.ErrDown)
		d.Crash(0, -1, 0)
		opens(t, d, all)
		stands(t, d, all)
	}
}

// P7.1: what was written last counts, and what Open answers is sure.
func TestOpenMakesSure(t *testing.T) {
	all := texts(10, 100)
	d, _ := fresh(t, all...)
	b := text(7, 70)
	for i, s := range lay(3, b) {
		d.Write(4-1+i, s[:])
	}
	d.Write(10, []byte("other"))
	more := append(all[:2:2], b)
	opens(t, d, more)
	d.Crash(0, -1, 0)
	stands(t, d, more)
	opens(t, d, more)
}

// A change is what befalls a sector; sealed: its sum is made anew.
type change struct {
	name   string
	sealed bool
	do     func(s *sector)
}

// turns answers changes of each byte of a sector, its sum not made anew.
func turns() []change {
	var l []change
	for i := range api.Sector {
		for _, x := range []byte{1, 128, 255} {
			l = append(l, change{fmt.Sprint("byte ", i, " turned by ", x), false, func(s *sector) { s[i] ^= x }})
		}
	}
	return l
}

// sealedTurns answers changes behind which the sum is right, yet the sector none
// of that record.
func sealedTurns() []change {
	l := []change{
		{"length 53", true, func(s *sector) { s[6] = 53 }},
		{"length 57", true, func(s *sector) { s[6] = 57 }},
		{"length 128", true, func(s *sector) { s[6] = 128 }},
		{"length 255", true, func(s *sector) { s[6] = 255 }},
		{"count 0", true, func(s *sector) { s[5] = 0 }},
		{"count 255", true, func(s *sector) { s[5] = 255 }},
		{"one more", true, func(s *sector) { s[5]++ }},
		// Of two, the first one alone would be a record of 52 bytes.
		{"one fewer", true, func(s *sector) {
			if s[5] != 2 {
				s[5]--
			}
		}},
		{"a place behind", true, func(s *sector) { s[4]++ }},
		{"a place ahead", true, func(s *sector) { s[4]-- }},
		{"place 255", true, func(s *sector) { s[4] = 255 }},
		{"the next number", true, func(s *sector) { s[3]++ }},
		{"the number ahead", true, func(s *sector) { s[3]-- }},
		{"a number turned round", true, func(s *sector) { s[0], s[3] = s[3], s[0] }},
	}
	for i := range 3 {
		l = append(l, change{fmt.Sprint("number's byte ", i), true, func(s *sector) { s[i] = 1 }})
	}
	return l
}

// otherTurns answers changes of a whole sector, or of its end.
func otherTurns() []change {
	return []change{
		{"gone", false, func(s *sector) { *s = sector{} }},
		{"255", false, func(s *sector) { copy(s[:], bytes.Repeat([]byte{255}, api.Sector)) }},
		{"last byte 0", false, func(s *sector) { s[63] = 0 }},
		{"last byte 2", false, func(s *sector) { s[63] = 2 }},
		{"last byte 255", false, func(s *sector) { s[63] = 255 }},
		{"sum 0", false, func(s *sector) { copy(s[59:63], make([]byte, 4)) }},
		{"the sum's highest byte first", false, func(s *sector) {
			s[59], s[60], s[61], s[62] = s[62], s[61], s[60], s[59]
		}},
		{"a sum of the bytes alone", false, func(s *sector) {
			binary.LittleEndian.PutUint32(s[59:], crc32.ChecksumIEEE(s[7:59]))
		}},
		{"a sum of what is ahead of the bytes 0 alone", false, func(s *sector) {
			binary.LittleEndian.PutUint32(s[59:], crc32.ChecksumIEEE(s[:7+s[6]]))
		}},
	}
}

// broken has the log of all lose the records from number on, once that sector
// is s.
func broken(t *testing.T, all [][]byte, number, at int, s sector) {
	t.Helper()
	d := disk.New()
	store(t, d, 0, layAll(all)...)
	store(t, d, at, s)
	opens(t, d, all[:number-1])
	stands(t, d, all[:number-1])
}

// P7.1: a sector of any place of a record is changed: the records ahead of it
// are there, and none behind.
func TestChangedSector(t *testing.T) {
	all := texts(20, 30, 150, 0, 52, 104, 9)
	var changes []change
	changes = append(changes, turns()...)
	changes = append(changes, sealedTurns()...)
	changes = append(changes, otherTurns()...)
	at := 0
	for i, b := range all {
		for _, s := range lay(i+1, b) {
			for _, c := range changes {
				now := s
				c.do(&now)
				if c.sealed {
					now = seal(now)
				}
				if now == s {
					continue
				}
				t.Run(fmt.Sprintf("record %d, sector %d, %s", i+1, at, c.name), func(t *testing.T) {
					broken(t, all, i+1, at, now)
				})
			}
			at++
		}
	}
}

// P7.1: bytes behind those of a record are 0, be the sum right or not.
func TestBytesBehindARecordAre0(t *testing.T) {
	for _, n := range []int{0, 1, 30, 51, 53, 60, 103, 150} {
		all := [][]byte{text(1, 10), text(2, n), text(3, 10)}
		l := lay(2, all[1])
		last := len(l) - 1
		for i := 7 + int(l[last][6]); i < 59; i++ {
			for _, x := range []byte{1, 255} {
				s := l[last]
				s[i] = x
				broken(t, all, 2, 1+last, s)
				broken(t, all, 2, 1+last, seal(s))
			}
		}
	}
}

// P7.1: all sectors but the last one have 52 bytes.
func TestShortPieceAheadOfOthers(t *testing.T) {
	all := [][]byte{text(1, 10), text(2, 150), text(3, 10)}
	l := lay(2, all[1])
	for place := range len(l) - 1 {
		for _, n := range []byte{0, 1, 46, 51} {
			s := l[place]
			clear(s[7+n : 59])
			s[6] = n
			broken(t, all, 2, 1+place, seal(s))
			s = l[place]
			s[6] = n
			broken(t, all, 2, 1+place, seal(s))
		}
	}
}

// P7.1: a record with a sector's number, place or count changed in all of its
// sectors alike is none.
func TestRecordChangedAlike(t *testing.T) {
	all := [][]byte{text(1, 10), text(2, 150), text(3, 10)}
	for name, do := range map[string]func(s *sector){
		"number 0":        func(s *sector) { s[3] = 0 },
		"number 1":        func(s *sector) { s[3] = 1 },
		"number 3":        func(s *sector) { s[3] = 3 },
		"number 258":      func(s *sector) { s[2] = 1 },
		"lowest first":    func(s *sector) { s[0], s[3] = s[3], s[0] },
		"places from 1":   func(s *sector) { s[4]++ },
		"places turned":   func(s *sector) { s[4] = 2 - s[4] },
		"count 0":         func(s *sector) { s[5] = 0 },
		"count 4":         func(s *sector) { s[5] = 4 },
		"count ahead":     func(s *sector) { s[4], s[5] = s[5], s[4] },
		"last bytes 0":    func(s *sector) { s[63] = 0 },
		"counted from it": func(s *sector) { s[5] -= s[4] },
	} {
		d := disk.New()
		store(t, d, 0, layAll(all)...)
		for i, s := range lay(2, all[1]) {
			do(&s)
			last := s[63]
			s = seal(s)
			s[63] = last
			store(t, d, 1+i, s)
		}
		_, records, e := wal.Open(d)
		if e != api.OK || len(records) != 1 || !bytes.Equal(records[0], all[0]) {
			t.Fatalf("%s: %d records, %d", name, len(records), e)
		}
		stands(t, d, all[:1])
	}
}

// P7.1: sectors of other records, and of other places, are none of a record.
func TestSectorsTurnedRound(t *testing.T) {
	all := texts(20, 150, 150, 30)
	l := layAll(all)
	number := []int{1, 2, 2, 2, 3, 3, 3, 4}
	for a := range l {
		for b := range l {
			if a == b {
				continue
			}
			// One is there twice.
			broken(t, all, number[a], a, l[b])
			// They changed places.
			d := disk.New()
			store(t, d, 0, l...)
			store(t, d, a, l[b])
			store(t, d, b, l[a])
			want := all[:number[min(a, b)]-1]
			opens(t, d, want)
			stands(t, d, want)
		}
	}
}

// P7.1: a record of which sectors are of an earlier one of the same number is
// there only if all of it is.
func TestRecordOfTwo(t *testing.T) {
	old, now := lay(2, text(5, 150)), lay(2, text(6, 100))
	for bits := range 8 {
		d, _ := fresh(t, text(1, 3))
		want := [][]byte{text(1, 3)}
		for place := range 3 {
			s := old[place]
			if bits>>place&1 == 1 && place < len(now) {
				s = now[place]
			}
			store(t, d, 1+place, s)
		}
		switch bits & 3 {
		case 0:
			want = append(want, text(5, 150))
		case 3:
			want = append(want, text(6, 100))
		}
		opens(t, d, want)
		stands(t, d, want)
	}
}

// P7.1: the first record begins at sector 0, and each other one behind the one
// ahead of it.
func TestRecordsElsewhere(t *testing.T) {
	for _, at := range []int{1, 2, 100, api.MaxDisk - 2} {
		d := disk.New()
		store(t, d, at, lay(1, text(1, 100))...)
		opens(t, d, nil)
		stands(t, d, nil)
		if at > 2 {
			all := texts(20, 40)
			d, _ = fresh(t, all...)
			store(t, d, at, lay(3, text(1, 100))...)
			opens(t, d, all)
			stands(t, d, all)
		}
	}
}

// P7.1: a record whose end would be behind the disk's.
func TestRecordBeyondTheEnd(t *testing.T) {
	var all [][]byte
	d, l := fresh(t)
	for l.Room() > 2 {
		all = append(all, text(len(all), 3))
		put(t, l, all[len(all)-1])
	}
	three := lay(len(all)+1, text(9, 150))
	store(t, d, api.MaxDisk-2, three[:2]...)
	opens(t, d, all)
	stands(t, d, all)
	store(t, d, api.MaxDisk-2, lay(len(all)+1, text(9, 104))...)
	all = append(all, text(9, 104))
	l = opens(t, d, all)
	counts(t, l, len(all), 0)
	stands(t, d, all)
}

// P7.1: two logs are apart.
func TestTwoLogs(t *testing.T) {
	one, a := fresh(t)
	two, b := fresh(t)
	put(t, a, []byte("one"))
	put(t, b, text(1, 200), []byte("two"))
	put(t, a, text(2, 100), nil)
	goDown(t, one)
	put(t, b, []byte("three"))
	counts(t, a, 3, api.MaxDisk-4)
	counts(t, b, 3, api.MaxDisk-6)
	one.Crash(0, -1, 0)
	stands(t, one, [][]byte{[]byte("one"), text(2, 100), nil})
	stands(t, two, [][]byte{text(1, 200), []byte("two"), []byte("three")})
	opens(t, one, [][]byte{[]byte("one"), text(2, 100), nil})
	opens(t, two, [][]byte{text(1, 200), []byte("two"), []byte("three")})
}

// Rule 4: a Put neither changes nor keeps the bytes, and what is behind them is
// none of the record.
func TestPutKeepsNothing(t *testing.T) {
	for _, n := range []int{0, 1, 40, 52, 53, 104, 130} {
		room := text(1, 300)
		d, l := fresh(t)
		put(t, l, room[:n])
		if !bytes.Equal(room, text(1, 300)) {
			t.Fatal("the bytes were changed")
		}
		for i := range room {
			room[i] = 99
		}
		stands(t, d, [][]byte{text(1, 300)[:n]})
		put(t, l, []byte("next"))
		stands(t, d, [][]byte{text(1, 300)[:n], []byte("next")})
		opens(t, d, [][]byte{text(1, 300)[:n], []byte("next")})
	}
}

// Rule 4: the records that Open answers are new memory, and share none.
func TestOpenKeepsNothing(t *testing.T) {
	all := texts(10, 0, 52, 100, 104, 300, 7)
	d, _ := fresh(t, all...)
	l, records, _ := wal.Open(d)
	_, again, _ := wal.Open(d)
	for i, b := range records {
		whole := b[:cap(b)]
		for j := range whole {
			whole[j] = 77
		}
		records[i] = append(b, 1, 2, 3)
		has(t, again, all)
		for j := i + 1; j < len(all); j++ {
			if !bytes.Equal(records[j], all[j]) {
				t.Fatalf("records %d and %d share memory", i+1, j+1)
			}
		}
	}
	counts(t, l, len(all), api.MaxDisk-len(layAll(all)))
	put(t, l, []byte("next"))
	all = append(all, []byte("next"))
	stands(t, d, all)
	opens(t, d, all)
}

// Len, Room and Pieces change nothing.
func TestAskingChangesNothing(t *testing.T) {
	all := texts(10, 60)
	d, l := fresh(t, all...)
	d.Arm(0)
	for range 10 {
		counts(t, l, 2, api.MaxDisk-3)
		wal.Pieces(60)
	}
	if d.Down() {
		t.Fatal("it was written")
	}
	stands(t, d, all)
}

// A blow is what befalls the writes that wait.
type blow struct{ mask, torn, cut int }

// blows answers crashes of so many writes that wait, with masks of several
// kinds, and one torn at each place.
func blows(waits int) []blow {
	var l []blow
	for _, mask := range masks {
		l = append(l, blow{mask, -1, 0})
		for place := range waits {
			for _, cut := range []int{0, 1, 63, 64} {
				l = append(l, blow{mask, place, cut})
			}
		}
	}
	return l
}

// whole tells whether all of so many writes last.
func (x blow) whole(waits int) bool {
	for place := range waits {
		if place == x.torn && x.cut < api.Sector || place != x.torn && x.mask>>(place%32)&1 == 0 {
			return false
		}
	}
	return true
}

// P7.2: a crash behind each write of a Put loses what was being put, and
// nothing else.
func TestCrashInAPut(t *testing.T) {
	all := texts(20, 110)
	for _, n := range []int{0, 30, 52, 53, 104, 150, 208} {
		b := text(9, n)
		for taken := range wal.Pieces(n) {
			for _, x := range blows(taken) {
				d, l := fresh(t, all...)
				d.Arm(taken)
				if e := l.Put(b); e != api.ErrDown {
					t.Fatal(e)
				}
				d.Crash(x.mask, x.torn, x.cut)
				l = opens(t, d, all)
				// Another one of as many sectors is laid on what was left.
				put(t, l, text(4, n))
				opens(t, d, append(all[:2:2], text(4, n)))
			}
		}
	}
}

// P7.2: so it is with the longest record.
func TestCrashInALongPut(t *testing.T) {
	all := texts(20, 110)
	for taken := range most {
		for _, x := range []blow{{0, -1, 0}, {-1, -1, 0}, {1 << 31, 0, 63}, {-1, taken - 1, 63}, {-1, 0, 64}, {^1, 32, 1}} {
			d, l := fresh(t, all...)
			d.Arm(taken)
			if e := l.Put(text(9, api.MaxBytes)); e != api.ErrDown {
				t.Fatal(e)
			}
			d.Crash(x.mask, x.torn, x.cut)
			l = opens(t, d, all)
			stands(t, d, all)
			put(t, l, text(4, api.MaxBytes))
			opens(t, d, append(all[:2:2], text(4, api.MaxBytes)))
		}
	}
}

// P7.2: a crash behind the sync loses nothing.
func TestCrashBehindAPut(t *testing.T) {
	var all [][]byte
	d, l := fresh(t)
	for i, n := range lengths {
		all = append(all, text(i, n))
		put(t, l, all[i])
		for _, x := range blows(3) {
			d.Crash(x.mask, x.torn, x.cut)
		}
		stands(t, d, all)
		if i%2 == 0 {
			l = opens(t, d, all)
		}
	}
	opens(t, d, all)
}

// P7.2: a crash between the last write and its sync: the record is there if all
// of it is, and not at all if not.
func TestCrashAheadOfTheSync(t *testing.T) {
	all := texts(20, 110)
	end := len(layAll(all))
	for _, n := range []int{0, 30, 52, 53, 104, 150} {
		b := text(9, n)
		pieces := wal.Pieces(n)
		l := blows(pieces)
		for mask := range 1 << pieces {
			l = append(l, blow{mask, -1, 0}, blow{mask, pieces - 1, 62}, blow{mask, 0, 32})
		}
		for _, x := range l {
			d, _ := fresh(t, all...)
			for i, s := range lay(3, b) {
				d.Write(end+i, s[:])
			}
			d.Crash(x.mask, x.torn, x.cut)
			want := all[:2:2]
			if x.whole(pieces) {
				want = append(want, b)
			}
			opens(t, d, want)
			stands(t, d, want)
		}
	}
}

// P7.2: of a sector that is cut anywhere no record is told.
func TestEachCut(t *testing.T) {
	// The sums of some of these end with bytes 0.
	for _, n := range []int{0, 1, 30, 52} {
		for seed := range 300 {
			b := text(seed, n)
			s := lay(1, b)[0]
			cuts := []int{0, 1, 7, 58, 59, 60, 61, 62, 63}
			if seed == 0 {
				cuts = nil
				for cut := range api.Sector {
					cuts = append(cuts, cut)
				}
			} else if s[62] != 0 && seed > 20 {
				continue
			}
			for _, cut := range cuts {
				d := disk.New()
				d.Write(0, s[:])
				d.Crash(0, 0, cut)
				opens(t, d, nil)
			}
		}
	}
}

// stale answers a disk with those records, and parts of lost ones behind them.
func stale(t *testing.T, all [][]byte) (*disk.Disk, []int) {
	t.Helper()
	d, _ := fresh(t, all...)
	end := len(layAll(all))
	lost := lay(len(all)+1, text(9, 150))
	store(t, d, end+1, lost[1:]...)
	store(t, d, end+3, lay(len(all)+2, text(8, 20))...)
	return d, []int{end + 1, end + 2, end + 3}
}

// P7.2: a crash behind each write of an Open that wipes.
func TestCrashInAnOpen(t *testing.T) {
	all := texts(20, 110)
	end := len(layAll(all))
	for taken := range 3 {
		for _, x := range blows(taken) {
			d, _ := stale(t, all)
			d.Arm(taken)
			refuses(t, d, api.ErrDown)
			d.Crash(x.mask, x.torn, x.cut)
			l := opens(t, d, all)
			if d.Sure(end) != (sector{}) || d.Sure(end+1) != (sector{}) || d.Sure(end+2) != (sector{}) || d.Sure(end+3) != (sector{}) {
				t.Fatal("it isn't wiped")
			}
			put(t, l, text(5, 150))
			opens(t, d, append(all[:2:2], text(5, 150)))
		}
	}
}

// P7.2: a crash behind the last write of an Open, ahead of its sync.
func TestCrashInAnOpenAheadOfTheSync(t *testing.T) {
	all := texts(20, 110)
	for _, x := range blows(3) {
		d, places := stale(t, all)
		for _, at := range places {
			d.Write(at, nil)
		}
		d.Crash(x.mask, x.torn, x.cut)
		l := opens(t, d, all)
		put(t, l, text(5, 150))
		more := append(all[:2:2], text(5, 150))
		opens(t, d, more)
		stands(t, d, more)
	}
}

// P7.2: crash behind crash: what was lost doesn't come back as a part of what is
// put later, however much of both lasts.
func TestNoRecordOfTwoPuts(t *testing.T) {
	all := texts(20, 110)
	end := len(layAll(all))
	old, now := text(9, 150), text(7, 150)
	for first := range 8 {
		for second := range 8 {
			d, _ := fresh(t, all...)
			want := all[:2:2]
			for i, s := range lay(3, old) {
				d.Write(end+i, s[:])
			}
			d.Crash(first, -1, 0)
			if first == 7 {
				want = append(want, old)
			}
			l := opens(t, d, want)
			number, at := l.Len()+1, api.MaxDisk-l.Room()
			for i, s := range lay(number, now) {
				d.Write(at+i, s[:])
			}
			d.Crash(second, -1, 0)
			if second == 7 {
				want = append(want, now)
			}
			opens(t, d, want)
			stands(t, d, want)
		}
	}
}

// P7.2: crash behind crash, with starts between: each start has what was put.
func TestCrashBehindCrash(t *testing.T) {
	all := texts(20, 110)
	for taken := range 4 {
		for _, x := range blows(taken) {
			d, l := fresh(t, all...)
			want := all[:2:2]
			for round := range 3 {
				d.Arm(taken)
				if e := l.Put(text(30+round, 200)); e != api.ErrDown {
					t.Fatal(e)
				}
				d.Crash(x.mask, x.torn, x.cut)
				for wipes := range 2 {
					d.Arm(wipes)
					if l, records, e := wal.Open(d); e == api.OK {
						has(t, records, want)
						counts(t, l, len(want), api.MaxDisk-len(layAll(want)))
					} else if e != api.ErrDown {
						t.Fatal(e)
					}
					d.Crash(x.mask, x.torn, x.cut)
				}
				l = opens(t, d, want)
				b := text(40+round, 200-52*round)
				put(t, l, b)
				want = append(want, b)
			}
			d.Crash(x.mask, x.torn, x.cut)
			opens(t, d, want)
			stands(t, d, want)
		}
	}
}

// keeps opens a disk through crashes, and answers its log and records, which are
// want, and one more at most: that.
func keeps(t *testing.T, random *rand.Rand, d *disk.Disk, want [][]byte, more []byte) (*wal.Log, [][]byte) {
	t.Helper()
	for random.Intn(3) == 0 {
		d.Arm(random.Intn(4))
		if _, _, e := wal.Open(d); e != api.OK && e != api.ErrDown {
			t.Fatal(e)
		}
		d.Crash(random.Int(), random.Intn(6)-1, random.Intn(70)-2)
	}
	d.Crash(0, -1, 0)
	l, records, e := wal.Open(d)
	if e != api.OK {
		t.Fatal(e)
	}
	if more != nil && len(records) == len(want)+1 {
		want = append(want, more)
	}
	has(t, records, want)
	counts(t, l, len(want), api.MaxDisk-len(layAll(want)))
	return l, want
}

// P7.2: logs that are put to, crashed and opened as it comes.
func TestManyCrashes(t *testing.T) {
	for seed := range 60 {
		random := rand.New(rand.NewSource(int64(seed)))
		d := disk.New()
		l, want := keeps(t, random, d, nil, nil)
		for step := range 60 {
			b := text(random.Intn(255), []int{0, 1, 52, 53, 104, 150, 200, random.Intn(api.MaxBytes + 1)}[random.Intn(8)])
			if random.Intn(2) == 0 {
				d.Arm(random.Intn(6))
			}
			e := l.Put(b)
			var more []byte
			switch {
			case e == api.OK:
				want = append(want, b)
			case e == api.ErrFull && wal.Pieces(len(b)) > l.Room():
			case e == api.ErrDown && d.Down():
				more = b
			default:
				t.Fatalf("Put of %d bytes: %d", len(b), e)
			}
			if e == api.ErrDown || random.Intn(4) == 0 {
				d.Crash(random.Int(), random.Intn(6)-1, random.Intn(70)-2)
				l, want = keeps(t, random, d, want, more)
			}
			if step%15 == 0 {
				d.Crash(0, -1, 0)
				opens(t, d, want)
				stands(t, d, want)
			}
		}
		d.Crash(0, -1, 0)
		opens(t, d, want)
		stands(t, d, want)
	}
}

// P0: whatever is handed in, and whatever a disk holds, every call ends, and
// none panics.
func TestNoPanic(t *testing.T) {
	for _, n := range []int{math.MinInt, math.MinInt + 1, -1 << 32, -53, -52, -1, 0, 1, 52, 1 << 31, 1 << 32, 1 << 62, math.MaxInt - 52, math.MaxInt - 51, math.MaxInt - 1, math.MaxInt} {
		wal.Pieces(n)
	}
	if l, records, e := wal.Open(nil); l != nil || len(records) != 0 || e == api.OK {
		t.Fatalf("Open of no disk: %v, %d records, %d", l, len(records), e)
	}
	random := rand.New(rand.NewSource(3))
	for round := range 300 {
		d := disk.New()
		for at := range 300 {
			var s sector
			random.Read(s[:])
			s[0], s[1], s[2], s[3] = 0, 0, 0, byte(1+round%2*at)
			s[4], s[5] = byte(at), byte(random.Intn(256))
			store(t, d, at*(1+round%6), seal(s))
		}
		l, _, e := wal.Open(d)
		if e != api.OK {
			t.Fatal(e)
		}
		l.Put(nil)
		l.Put(make([]byte, random.Intn(4000)))
		d.Arm(round % 5)
		l.Put(make([]byte, 1000))
		l.Put(make([]byte, 1<<20))
		wal.Open(d)
	}
}
