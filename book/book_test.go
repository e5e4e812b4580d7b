package book_test

import (
	"math"
	"math/rand"
	"testing"

	"legatee/api"
	"legatee/book"
	"legatee/row"
)

// Numbers beside the machines and keys; the first two of each are those right
// beside them.
var (
	noKey     = []int{-1, api.Keys, api.Keys + 1, api.Slots, 64, -api.Keys, math.MaxInt, math.MinInt}
	noMachine = []int{-1, api.Slots, api.Slots + 1, 64, -api.Slots, math.MaxInt, math.MinInt}
)

// rows are those that a Book is to know.
type rows [api.Slots]api.Row

// with answers these rows, that of who being x.
func (l rows) with(who int, x api.Row) rows {
	l[who] = x
	return l
}

// only answers rows of which there is one.
func only(who int, x api.Row) rows {
	return rows{}.with(who, x)
}

// A sight is all that a Book answers of machines and keys that there are.
type sight struct {
	rows   rows
	cells  [api.Slots][api.Keys]api.Cell
	values [api.Keys]int
	rights [api.Slots][api.Keys]int
}

// see asks b for all of that.
func see(b *book.Book) sight {
	var s sight
	for who := range api.Slots {
		s.rows[who] = b.Row(who)
		for key := range api.Keys {
			s.cells[who][key] = b.Cell(who, key)
			s.rights[who][key] = b.Rights(who, key)
		}
	}
	for key := range api.Keys {
		s.values[key] = b.Value(key)
	}
	return s
}

// latest answers the cell of a machine by the words: of the greatest version,
// of several that of the least machine's row.
func latest(known rows, of, key int) api.Cell {
	var found api.Cell
	version := -1
	for who := api.Slots - 1; who >= 0; who-- {
		x := known[who]
		if of == who && x.Version >= version {
			found, version = x.Cells[key], x.Version
		}
		if of != who && x.Heir[of] > 0 && x.Heir[of]-1 >= version {
			found, version = x.Left[of][key], x.Heir[of]-1
		}
	}
	return found
}

// expect answers what a Book that knows these rows is to answer.
func expect(known rows) sight {
	s := sight{rows: known}
	for of := range api.Slots {
		for key := range api.Keys {
			s.cells[of][key] = latest(known, of, key)
		}
	}
	for key := range api.Keys {
		var alone [api.Slots]int
		for of := range api.Slots {
			c := s.cells[of][key]
			s.values[key] += c.In - c.Out
			alone[of] += c.In - c.Out
			for to, n := range c.Given {
				alone[to] += n
				alone[of] -= n
			}
		}
		for who := range api.Slots {
			for of := range api.Slots {
				if of == who || known[who].Heir[of] > 0 {
					s.rights[who][key] += alone[of]
				}
			}
		}
	}
	return s
}

// agree asks that b answers what a Book that knows these rows is to answer.
func agree(t *testing.T, b *book.Book, known rows, what ...any) {
	t.Helper()
	got, want := see(b), expect(known)
	switch {
	case got.rows != want.rows:
		t.Fatalf("%v: rows %v: want %v", what, got.rows, want.rows)
	case got.cells != want.cells:
		t.Fatalf("%v: cells %v: want %v", what, got.cells, want.cells)
	case got.values != want.values:
		t.Fatalf("%v: values %v: want %v", what, got.values, want.values)
	case got.rights != want.rights:
		t.Fatalf("%v: rights %v: want %v", what, got.rights, want.rights)
	}
}

// merge has b know x, which must be news.
func merge(t *testing.T, b *book.Book, who int, x api.Row) {
	t.Helper()
	if !b.Merge(who, x) {
		t.Fatalf("a row of %d, Version %d, isn't merged", who, x.Version)
	}
}

// knowing answers a Book of these rows; those of Version 0 are none.
func knowing(t *testing.T, known rows) *book.Book {
	t.Helper()
	b := new(book.Book)
	for who, x := range known {
		if x.Version > 0 {
			merge(t, b, who, x)
		}
	}
	return b
}

// counting answers cells whose numbers all differ: from, from+1 and so on.
func counting(from int) [api.Keys]api.Cell {
	var l [api.Keys]api.Cell
	for key := range l {
		l[key].In, l[key].Out = from, from+1
		from += 2
		for to := range l[key].Given {
			l[key].Given[to] = from
			from++
		}
	}
	return l
}

// full answers a row whose numbers all differ, that came into the rows of dead.
func full(version, from int, dead ...int) api.Row {
	x := api.Row{Version: version, Cells: counting(from)}
	for _, i := range dead {
		x.Heir[i] = from + i
		x.Left[i] = counting(from + 100*(1+i))
	}
	return x
}

// done answers the row that calls of layer 4 make of x, each of which must go.
func done(t *testing.T, x api.Row, calls ...func(x api.Row) (api.Row, api.Errno)) api.Row {
	t.Helper()
	for i, call := range calls {
		y, err := call(x)
		if err != api.OK {
			t.Fatalf("call %d: error %d", i, err)
		}
		x = y
	}
	return x
}

func inc(key, n int) func(x api.Row) (api.Row, api.Errno) {
	return func(x api.Row) (api.Row, api.Errno) { return row.Inc(x, key, n) }
}

func dec(key, n int) func(x api.Row) (api.Row, api.Errno) {
	return func(x api.Row) (api.Row, api.Errno) { return row.Dec(x, key, n) }
}

func give(key, n, to int) func(x api.Row) (api.Row, api.Errno) {
	return func(x api.Row) (api.Row, api.Errno) { return row.Give(x, key, n, to) }
}

func inherit(who int, dead api.Row) func(x api.Row) (api.Row, api.Errno) {
	return func(x api.Row) (api.Row, api.Errno) { return row.Inherit(x, who, dead) }
}

// asks asks for the value of a key, and for the Rights of it at each machine.
func asks(t *testing.T, b *book.Book, key, value int, rights ...int) {
	t.Helper()
	if got := b.Value(key); got != value {
		t.Fatalf("key %d: Value %d: want %d", key, got, value)
	}
	for who, want := range rights {
		if got := b.Rights(who, key); got != want {
			t.Fatalf("key %d: Rights of %d: %d: want %d", key, who, got, want)
		}
	}
}

func TestExample(t *testing.T) {
	var b book.Book
	merge(t, &b, 0, done(t, api.Row{}, inc(0, 5), give(0, 2, 1)))
	asks(t, &b, 0, 5, 3, 2, 0, 0, 0)
	asks(t, &b, 1, 0, 0, 0, 0, 0, 0)
}

func TestBookMadeByNobody(t *testing.T) {
	var b book.Book
	if see(&b) != (sight{}) {
		t.Fatal(see(&b))
	}
	if see(new(book.Book)) != (sight{}) || see(&book.Book{}) != (sight{}) {
		t.Fatal("another one isn't empty")
	}
}

// Two machines that put in, took out, and gave each other, by two keys.
func TestValueAndRightsOfSeveral(t *testing.T) {
	var b book.Book
	x := done(t, api.Row{}, inc(1, 20), dec(1, 3), give(1, 4, 4), inc(3, 7))
	y := done(t, api.Row{}, inc(1, 100), give(1, 30, 0), give(1, 6, 2), dec(1, 10), dec(3, 2))
	merge(t, &b, 0, x)
	asks(t, &b, 1, 17, 13, 0, 0, 0, 4)
	asks(t, &b, 3, 7, 7, 0, 0, 0, 0)
	merge(t, &b, 4, y)
	asks(t, &b, 1, 107, 43, 0, 6, 0, 58)
	// More was taken out than is known of what was put in: the rows may come
	// in any order.
	asks(t, &b, 3, 5, 7, 0, 0, 0, -2)
	asks(t, &b, 0, 0, 0, 0, 0, 0, 0)
	asks(t, &b, 2, 0, 0, 0, 0, 0, 0)
	agree(t, &b, rows{0: x, 4: y})
}

func TestBelowNothing(t *testing.T) {
	var b book.Book
	merge(t, &b, 2, done(t, api.Row{}, dec(2, 9), give(2, 5, 3)))
	asks(t, &b, 2, -9, 0, 0, -14, 5, 0)
}

// What a machine gave to itself is given and got.
func TestGivenToItself(t *testing.T) {
	for who := range api.Slots {
		for key := range api.Keys {
			x := done(t, api.Row{}, inc(key, 8), give(key, 5, who))
			b := knowing(t, only(who, x))
			var want [api.Slots]int
			want[who] = 8
			asks(t, b, key, 8, want[:]...)
		}
	}
}

func TestEachNumberOfEachCell(t *testing.T) {
	for who := range api.Slots {
		for key := range api.Keys {
			alone := func(call func(x api.Row) (api.Row, api.Errno), value int, rights [api.Slots]int) {
				t.Helper()
				b := knowing(t, only(who, done(t, api.Row{}, call)))
				for k := range api.Keys {
					if k != key {
						asks(t, b, k, 0, 0, 0, 0, 0, 0)
					}
				}
				asks(t, b, key, value, rights[:]...)
			}
			var rights [api.Slots]int
			rights[who] = 6
			alone(inc(key, 6), 6, rights)
			rights[who] = -6
			alone(dec(key, 6), -6, rights)
			for to := range api.Slots {
				var rights [api.Slots]int
				rights[who] -= 6
				rights[to] += 6
				alone(give(key, 6, to), 0, rights)
			}
		}
	}
}

// MaxNum in each number of each row: sums of them are above MaxNum, and told.
func TestMuch(t *testing.T) {
	var in, out, both, given rows
	for who := range api.Slots {
		in[who].Version, out[who].Version, both[who].Version, given[who].Version = 1, 1, 1, 1
		for key := range api.Keys {
			in[who].Cells[key].In = api.MaxNum
			out[who].Cells[key].Out = api.MaxNum
			both[who].Cells[key] = api.Cell{In: api.MaxNum, Out: api.MaxNum}
			given[who].Cells[key].In = api.MaxNum
			given[who].Cells[key].Given[2] = api.MaxNum
		}
	}
	for key := range api.Keys {
		const m = api.MaxNum
		asks(t, knowing(t, in), key, 5*m, m, m, m, m, m)
		asks(t, knowing(t, out), key, -5*m, -m, -m, -m, -m, -m)
		asks(t, knowing(t, both), key, 0, 0, 0, 0, 0, 0)
		asks(t, knowing(t, given), key, 5*m, 0, 0, 5*m, 0, 0)
	}
	// One machine that came into all of these.
	x := done(t, api.Row{}, inherit(0, given[0]), inherit(1, given[1]), inherit(2, given[2]), inherit(3, given[3]))
	b := knowing(t, rows{4: x})
	asks(t, b, 0, 4*api.MaxNum, 0, 0, 4*api.MaxNum, 0, 4*api.MaxNum)
	merge(t, b, 4, done(t, x, dec(0, api.MaxNum), give(0, api.MaxNum, 4)))
	asks(t, b, 0, 3*api.MaxNum, 0, 0, 4*api.MaxNum, 0, 3*api.MaxNum)
}

func TestMergeByVersion(t *testing.T) {
	versions := []int{1, 2, 3, 7, api.MaxNum, math.MaxInt - 1, math.MaxInt}
	for who := range api.Slots {
		for _, known := range versions {
			for _, version := range append([]int{0}, versions...) {
				for _, same := range []bool{true, false} {
					x, y := full(1, 500, (who+1)%api.Slots), full(1, 9000, (who+2)%api.Slots)
					if same {
						y = x
					}
					x.Version, y.Version = known, version
					b := knowing(t, only(who, x))
					before := y
					if got := b.Merge(who, y); got != (version > known) {
						t.Fatalf("%d: Version %d behind %d: %v", who, version, known, got)
					}
					if y != before {
						t.Fatal("Merge changed what it was handed")
					}
					if version > known {
						x = y
					}
					agree(t, b, only(who, x), who, known, version)
				}
			}
		}
	}
}

// The rows beside those of the version that is known: one below, that, one above.
func TestMergeBesideAVersion(t *testing.T) {
	for who := range api.Slots {
		for _, version := range []int{1, 2, 5, 1000} {
			x := full(version, 300)
			b := knowing(t, only(who, x))
			for _, y := range []api.Row{x, full(version, 700), full(version-1, 700), {Version: version}, {}} {
				if b.Merge(who, y) {
					t.Fatalf("%d: Version %d behind %d: true", who, y.Version, version)
				}
				agree(t, b, only(who, x), who, version, y.Version)
			}
			y := full(version+1, 700)
			merge(t, b, who, y)
			agree(t, b, only(who, y), who, version)
			if b.Merge(who, y) || b.Merge(who, x) {
				t.Fatalf("%d: merged again", who)
			}
			agree(t, b, only(who, y), who, version)
		}
	}
}

// A Book knows rows of Version 0 from its beginning on: none is news.
func TestMergeOfVersionNothing(t *testing.T) {
	for who := range api.Slots {
		var b book.Book
		for _, x := range []api.Row{{}, full(0, 10), full(0, 10, (who+1)%api.Slots)} {
			if b.Merge(who, x) {
				t.Fatalf("%d: Version 0 is merged: %v", who, x)
			}
			if see(&b) != (sight{}) {
				t.Fatalf("%d: Version 0 is known: %v", who, x)
			}
		}
		merge(t, &b, who, full(1, 10))
		agree(t, &b, only(who, full(1, 10)), who)
	}
}

// A later row is known whole, be it less than that ahead of it, or nothing.
func TestMergeIsWhole(t *testing.T) {
	for who := range api.Slots {
		b := knowing(t, only(who, full(3, 800, 0, 1, 2, 3, 4)))
		for i, x := range []api.Row{
			full(4, 20, (who+1)%api.Slots), {Version: 5}, full(6, 600, (who+3)%api.Slots),
			full(9, 1), full(10, 5000, 0, 1, 2, 3, 4),
		} {
			merge(t, b, who, x)
			agree(t, b, only(who, x), who, i)
		}
	}
}

// The version of one machine's row is nothing to another one's.
func TestMergeOfOneMachine(t *testing.T) {
	var known rows
	var b book.Book
	for _, who := range []int{3, 0, 4, 1, 2} {
		known[who] = full(20-who, 1000*(who+1))
		merge(t, &b, who, known[who])
		agree(t, &b, known, who)
	}
	for who := range api.Slots {
		known[who] = full(21-who, 1000*(who+10), (who+1)%api.Slots)
		merge(t, &b, who, known[who])
		agree(t, &b, known, who)
	}
	same := full(30, 7)
	for who := range api.Slots {
		known[who] = same
		merge(t, &b, who, same)
		agree(t, &b, known, who)
	}
}

func TestMergeOfNoMachine(t *testing.T) {
	known := rows{full(3, 10), full(3, 200), full(3, 300), full(3, 400, 1), full(3, 500)}
	for _, b := range []*book.Book{new(book.Book), knowing(t, known)} {
		before := see(b)
		for _, who := range noMachine {
			for _, x := range []api.Row{{}, {Version: 1}, full(9, 1000), full(9, 1000, 2), {Version: -1}} {
				if b.Merge(who, x) {
					t.Fatalf("%d: merged", who)
				}
				if see(b) != before {
					t.Fatalf("%d: something is known of it", who)
				}
			}
		}
	}
}

// wrongs answers rows of that version that may not be, each by one number.
func wrongs(version int) []api.Row {
	var l []api.Row
	spoil := func(call func(x *api.Row)) {
		x := full(version, 40, 1, 3)
		call(&x)
		l = append(l, x)
	}
	wrong := []int{-1, api.MaxNum + 1, math.MaxInt, math.MinInt}
	for key := range api.Keys {
		for _, n := range wrong {
			spoil(func(x *api.Row) { x.Cells[key].In = n })
			spoil(func(x *api.Row) { x.Cells[key].Out = n })
			spoil(func(x *api.Row) { x.Left[1][key].In = n })
			spoil(func(x *api.Row) { x.Left[3][key].Out = n })
		}
		for to := range api.Slots {
			spoil(func(x *api.Row) { x.Cells[key].Given[to] = api.MaxNum })
			spoil(func(x *api.Row) { x.Cells[key].Given[to] = math.MaxInt })
			spoil(func(x *api.Row) { x.Left[3][key].Given[to] = api.MaxNum })
		}
		spoil(func(x *api.Row) { x.Left[0][key].In = 1 })
		spoil(func(x *api.Row) { x.Left[2][key].Out = 1 })
		spoil(func(x *api.Row) { x.Left[4][key].Given[4] = 1 })
	}
	for i := range api.Slots {
		spoil(func(x *api.Row) { x.Heir[i] = -1 })
		spoil(func(x *api.Row) { x.Heir[i] = math.MinInt })
	}
	spoil(func(x *api.Row) { x.Heir[1] = 0 })
	spoil(func(x *api.Row) { x.Heir[3] = 0 })
	return l
}

func TestMergeOfRowsThatMayNotBe(t *testing.T) {
	for who := range api.Slots {
		known := full(4, 600, (who+1)%api.Slots)
		for _, version := range []int{5, 6, 100, math.MaxInt} {
			b, empty := knowing(t, only(who, known)), new(book.Book)
			for i, x := range wrongs(version) {
				if b.Merge(who, x) || empty.Merge(who, x) {
					t.Fatalf("%d: wrong row %d is merged: %v", who, i, x)
				}
				if x != wrongs(version)[i] {
					t.Fatal("Merge changed what it was handed")
				}
			}
			agree(t, b, only(who, known), who, version)
			agree(t, empty, rows{}, who, version)
			x := full(version, 40, 1, 3)
			merge(t, b, who, x)
			agree(t, b, only(who, x), who, version)
		}
	}
}

func TestMergeOfVersionsBelowNothing(t *testing.T) {
	for who := range api.Slots {
		b := knowing(t, only(who, full(4, 600)))
		for _, version := range []int{-1, -2, -4, -5, math.MinInt, math.MinInt + 1} {
			if x := full(version, 700); b.Merge(who, x) || new(book.Book).Merge(who, x) {
				t.Fatalf("%d: Version %d is merged", who, version)
			}
			agree(t, b, only(who, full(4, 600)), who, version)
		}
	}
}

// fillings calls with each list of one number below many for each machine.
func fillings(many int, call func(l [api.Slots]int)) {
	all := 1
	for range api.Slots {
		all *= many
	}
	for n := range all {
		var l [api.Slots]int
		for i := range l {
			l[i] = n % many
			n /= many
		}
		call(l)
	}
}

// had answers a row of who that has cells of that machine, all of them that
// number, of that version and 1: 0 is none, or, of itself, Version 0.
func had(who, of, heir, n int) api.Row {
	x := api.Row{Version: 1}
	var cells [api.Keys]api.Cell
	for key := range cells {
		cells[key].In = n + key
	}
	if of == who {
		return api.Row{Version: heir, Cells: cells}
	}
	if heir > 0 {
		x.Heir[of], x.Left[of] = heir, cells
	}
	return x
}

// All orders of versions in which the rows have a machine's cells, some of
// them the same: that of the greatest, of several the least machine's.
func TestCellOfTheGreatestVersion(t *testing.T) {
	for of := range api.Slots {
		fillings(4, func(heirs [api.Slots]int) {
			var b book.Book
			want, version := 0, -1
			for who, heir := range heirs {
				x := had(who, of, heir, 10*(who+1))
				if who == of && heir == 0 {
					x = api.Row{}
				} else {
					merge(t, &b, who, x)
				}
				v := heir - 1
				if who == of {
					v = heir
				}
				if v > version {
					want, version = x.Cells[0].In+x.Left[of][0].In, v
				}
			}
			for key := range api.Keys {
				n := want
				if n > 0 {
					n += key
				}
				if got := b.Cell(of, key); got != (api.Cell{In: n}) {
					t.Fatalf("%d, heirs %v, key %d: %v: want %d", of, heirs, key, got, n)
				}
				if got := b.Value(key); got != n {
					t.Fatalf("%d, heirs %v, key %d: Value %d: want %d", of, heirs, key, got, n)
				}
				for who, heir := range heirs {
					right := n
					if who != of && heir == 0 {
						right = 0
					}
					if got := b.Rights(who, key); got != right {
						t.Fatalf("%d, heirs %v, key %d: Rights of %d: %d: want %d", of, heirs, key, who, got, right)
					}
				}
			}
		})
	}
}

// Versions beside each other, up to int's end: its own row's, and Heir less 1
// of one that came into it.
func TestCellBesideAVersion(t *testing.T) {
	for _, version := range []int{1, 2, 9, api.MaxNum, math.MaxInt - 1} {
		for of := range api.Slots {
			for heir := range api.Slots {
				// As Heir is a version and 1, what is known at the heir is one
				// below, the same, and one above (but at int's end).
				for _, known := range []int{version - 1, version, version + 1} {
					if heir == of || known == math.MaxInt {
						continue
					}
					own, x := api.Row{Version: version, Cells: counting(10)}, api.Row{Version: 1}
					x.Heir[of], x.Left[of] = known+1, counting(5000)
					want := own.Cells
					if known > version || known == version && heir < of {
						want = x.Left[of]
					}
					b := knowing(t, only(of, own).with(heir, x))
					for key := range api.Keys {
						if got := b.Cell(of, key); got != want[key] {
							t.Fatalf("%d, Version %d, at %d Version %d, key %d: %v: want %v", of, version, heir, known, key, got, want[key])
						}
					}
				}
			}
		}
	}
}

// Its own row of Version 0 is nothing, and of the same version as that of one
// that came into it ahead of all: the least machine's is answered.
func TestCellOfVersionNothing(t *testing.T) {
	for of := range api.Slots {
		for heir := range api.Slots {
			if heir == of {
				continue
			}
			x := api.Row{Version: 1}
			x.Heir[of], x.Left[of] = 1, counting(30)
			b := knowing(t, only(heir, x))
			var want [api.Keys]api.Cell
			if heir < of {
				want = counting(30)
			}
			for key := range api.Keys {
				if got := b.Cell(of, key); got != want[key] {
					t.Fatalf("%d at %d, key %d: %v: want %v", of, heir, key, got, want[key])
				}
			}
			agree(t, b, only(heir, x), of, heir)
		}
	}
}

// A row that has its own machine among those that it came into has the cell of
// itself, whatever Left says.
func TestCellOfOneThatCameIntoItself(t *testing.T) {
	for who := range api.Slots {
		x := full(3, 50)
		x.Heir[who], x.Left[who] = 90, counting(7000)
		b := knowing(t, only(who, x))
		for key := range api.Keys {
			if got := b.Cell(who, key); got != x.Cells[key] {
				t.Fatalf("%d, key %d: %v", who, key, got)
			}
		}
		agree(t, b, only(who, x), who)
	}
}

func TestNoMachineNoKey(t *testing.T) {
	var known rows
	for who := range known {
		known[who] = full(5+who, 1000*(who+1), 0, 1, 2, 3, 4)
	}
	b := knowing(t, known)
	for _, who := range noMachine {
		if x := b.Row(who); x != (api.Row{}) {
			t.Fatalf("Row of %d: %v", who, x)
		}
		for _, key := range append([]int{0, 1, api.Keys - 1}, noKey...) {
			if c := b.Cell(who, key); c != (api.Cell{}) {
				t.Fatalf("Cell of %d, key %d: %v", who, key, c)
			}
			if n := b.Rights(who, key); n != 0 {
				t.Fatalf("Rights of %d, key %d: %d", who, key, n)
			}
		}
	}
	for _, key := range noKey {
		if n := b.Value(key); n != 0 {
			t.Fatalf("Value of key %d: %d", key, n)
		}
		for who := range api.Slots {
			if c := b.Cell(who, key); c != (api.Cell{}) {
				t.Fatalf("Cell of %d, key %d: %v", who, key, c)
			}
			if n := b.Rights(who, key); n != 0 {
				t.Fatalf("Rights of %d, key %d: %d", who, key, n)
			}
		}
	}
	agree(t, b, known)
}

// An heir has what the row had that it came into, and what that was given,
// whether it came by its own row or by the heir's.
func TestRightsOfAnHeir(t *testing.T) {
	dead := done(t, api.Row{}, inc(0, 50), dec(0, 8), give(0, 10, 3))
	giver := done(t, api.Row{}, inc(0, 100), give(0, 7, 0), give(0, 1, 2))
	heir := done(t, api.Row{}, inc(0, 4), inherit(0, dead))
	b := knowing(t, rows{1: giver, 2: heir})
	asks(t, b, 0, 146, 39, 92, 44, 10, 0)
	merge(t, b, 0, dead)
	asks(t, b, 0, 146, 39, 92, 44, 10, 0)
	// What is given to the one that left later on is its heir's too.
	merge(t, b, 1, done(t, giver, give(0, 20, 0)))
	asks(t, b, 0, 146, 59, 72, 64, 10, 0)
	// The heir takes out of what it came into.
	merge(t, b, 2, done(t, heir, dec(0, 30), give(0, 5, 4)))
	asks(t, b, 0, 116, 59, 72, 29, 10, 5)
}

// One that knows a later row than its heir came into: that one's cell holds for
// the heir's Rights too.
func TestRightsByTheLatestCells(t *testing.T) {
	dead := done(t, api.Row{}, inc(2, 50))
	heir := done(t, api.Row{}, inherit(4, dead))
	b := knowing(t, rows{1: heir, 4: done(t, dead, inc(2, 9), give(2, 3, 0))})
	asks(t, b, 2, 59, 3, 56, 0, 0, 56)
	// And the other way: the heir came into a later one than is known.
	later := done(t, dead, inc(2, 9), give(2, 3, 0), dec(2, 1))
	b = knowing(t, rows{1: done(t, api.Row{}, inherit(4, later)), 4: dead})
	asks(t, b, 2, 58, 3, 55, 0, 0, 55)
}

// An heir's own heir has all that came into that row, by its own row alone.
func TestRightsOfAnHeirsHeir(t *testing.T) {
	a := done(t, api.Row{}, inc(1, 3), give(1, 1, 4))
	b := done(t, api.Row{}, inc(1, 10), inherit(0, a))
	c := done(t, api.Row{}, inc(1, 100), inherit(3, b))
	known := knowing(t, rows{2: c})
	asks(t, known, 1, 113, 2, 0, 112, 10, 1)
	merge(t, known, 3, b)
	asks(t, known, 1, 113, 2, 0, 112, 12, 1)
	merge(t, known, 0, a)
	asks(t, known, 1, 113, 2, 0, 112, 12, 1)
	// One that came into a row of b ahead of that which came into a's.
	early := done(t, api.Row{}, inc(1, 100), inherit(3, done(t, api.Row{}, inc(1, 10))))
	known = knowing(t, rows{0: a, 2: early, 3: b})
	asks(t, known, 1, 113, 2, 0, 110, 12, 1)
}

// Whichever machines' rows one came into, be they known by themselves or not.
func TestRightsOfAllSets(t *testing.T) {
	const sets = 1 << api.Slots
	for who := range api.Slots {
		for bits := range sets {
			var known rows
			for i := range known {
				known[i] = full(50+i, 10000*(i+1))
			}
			for i := range api.Slots {
				if bits&(1<<i) != 0 {
					known[who].Heir[i] = 48 + 2*i
					known[who].Left[i] = counting(300 * (i + 1))
				}
			}
			agree(t, knowing(t, known), known, who, bits)
			for i := range known {
				if i != who {
					known[i] = api.Row{}
				}
			}
			agree(t, knowing(t, known), known, who, bits)
		}
	}
}

// orders calls with each order of the numbers of l.
func orders(l []int, call func(l []int)) {
	var place func(n int)
	place = func(n int) {
		if n == len(l) {
			call(l)
			return
		}
		for i := n; i < len(l); i++ {
			l[n], l[i] = l[i], l[n]
			place(n + 1)
			l[n], l[i] = l[i], l[n]
		}
	}
	place(0)
}

// However rows come, doubled and the later ahead of the earlier: the same is
// known in the end.
func TestMergeInAllOrders(t *testing.T) {
	x1 := done(t, api.Row{}, inc(0, 30), give(0, 3, 1))
	x2 := done(t, x1, dec(0, 5), inc(1, 4))
	y1 := done(t, api.Row{}, inc(0, 6), give(0, 2, 3))
	y2 := done(t, y1, inherit(0, x2), dec(1, 2))
	z := done(t, api.Row{}, inc(3, 8), give(3, 1, 0), inherit(1, y1))
	news := []struct {
		who int
		x   api.Row
	}{{0, x1}, {0, x2}, {1, y1}, {1, y2}, {4, z}, {1, y1}}
	orders([]int{0, 1, 2, 3, 4, 5}, func(l []int) {
		var b book.Book
		var known rows
		for _, i := range l {
			n := news[i]
			if got, want := b.Merge(n.who, n.x), n.x.Version > known[n.who].Version; got != want {
				t.Fatalf("%v: row %d: %v: want %v", l, i, got, want)
			} else if want {
				known[n.who] = n.x
			}
			agree(t, &b, known, l, i)
		}
		if want := (rows{0: x2, 1: y2, 4: z}); see(&b) != expect(want) {
			t.Fatalf("%v: not the same in the end", l)
		}
		asks(t, &b, 0, 31, 22, 29, 0, 2, 7)
		asks(t, &b, 1, 2, 4, 2, 0, 0, -2)
		asks(t, &b, 3, 8, 1, 1, 0, 0, 7)
	})
}

// The calls but Merge change nothing, at whatever arguments.
func TestAskingChangesNothing(t *testing.T) {
	known := rows{full(3, 10), full(9, 200, 0), {}, full(3, 400, 1, 2), full(7, 500)}
	b := knowing(t, known)
	for range 3 {
		for _, who := range append([]int{0, 1, 2, 3, 4}, noMachine...) {
			x := b.Row(who)
			x.Version, x.Cells, x.Left[2] = 99, counting(4), counting(8)
			for _, key := range append([]int{0, 1, 2, 3}, noKey...) {
				c := b.Cell(who, key)
				c.In, c.Given[1] = 77, 77
				b.Value(key)
				b.Rights(who, key)
			}
		}
		agree(t, b, known)
	}
}

// What one Book knows is nothing to another one, and a row that was handed in
// may be changed by whom it is.
func TestBooksAreApart(t *testing.T) {
	x, y := full(2, 10), full(3, 900, 1)
	a, b := knowing(t, rows{2: x}), knowing(t, rows{2: y, 4: x})
	x.Cells[0].In, y.Left[1][0].In = 5000, 5000
	agree(t, a, rows{2: full(2, 10)})
	agree(t, b, rows{2: full(3, 900, 1), 4: full(2, 10)})
	var c book.Book
	agree(t, &c, rows{})
}

// rowsAtChance does calls of layer 4 at chance, and answers all rows that were,
// by their machines.
func rowsAtChance(r *rand.Rand, inherits bool) [api.Slots][]api.Row {
	var all [api.Slots][]api.Row
	var now rows
	for range 1 + r.Intn(60) {
		who, key, n := r.Intn(api.Slots), r.Intn(api.Keys), 1+r.Intn(1<<r.Intn(40))
		x, err := now[who], api.OK
		switch r.Intn(5) {
		case 0, 1:
			x, err = row.Inc(x, key, n)
		case 2:
			x, err = row.Dec(x, key, n)
		case 3:
			x, err = row.Give(x, key, n, r.Intn(api.Slots))
		case 4:
			if dead := r.Intn(api.Slots); inherits && dead != who {
				x, err = row.Inherit(x, dead, now[dead])
			}
		}
		if err == api.OK && x.Version > now[who].Version {
			now[who] = x
			all[who] = append(all[who], x)
		}
	}
	return all
}

// mergeAtChance merges rows of all, some of them more than once, and answers
// the latest that came.
func mergeAtChance(t *testing.T, r *rand.Rand, b *book.Book, all [api.Slots][]api.Row) rows {
	t.Helper()
	var known rows
	for range 1 + r.Intn(40) {
		who := r.Intn(api.Slots)
		if len(all[who]) == 0 {
			continue
		}
		x := all[who][r.Intn(len(all[who]))]
		if got, want := b.Merge(who, x), x.Version > known[who].Version; got != want {
			t.Fatalf("%d: Version %d behind %d: %v", who, x.Version, known[who].Version, got)
		} else if want {
			known[who] = x
		}
	}
	return known
}

func TestRowsAtChance(t *testing.T) {
	r := rand.New(rand.NewSource(5))
	for i := range 2000 {
		var b book.Book
		known := mergeAtChance(t, r, &b, rowsAtChance(r, true))
		agree(t, &b, known, i)
	}
}

// P5.2: where no row came into others, whatever rows are known, of whichever
// versions, all Rights together are the Value.
func TestAllRightsAreTheValue(t *testing.T) {
	r := rand.New(rand.NewSource(52))
	for i := range 2000 {
		var b book.Book
		mergeAtChance(t, r, &b, rowsAtChance(r, false))
		for key := range api.Keys {
			sum := 0
			for who := range api.Slots {
				sum += b.Rights(who, key)
			}
			if sum != b.Value(key) {
				t.Fatalf("%d: key %d: all Rights are %d, Value %d", i, key, sum, b.Value(key))
			}
		}
	}
}

// The same of numbers that are as great as may be.
func TestAllRightsAreTheValueOfMuch(t *testing.T) {
	r := rand.New(rand.NewSource(520))
	much := func() int { return []int{0, 1, api.MaxNum - 1, api.MaxNum}[r.Intn(4)] }
	for i := range 1000 {
		var known rows
		for who := range known {
			known[who].Version = 1
			for key := range api.Keys {
				c := api.Cell{In: much(), Out: much()}
				c.Given[r.Intn(api.Slots)] = much()
				known[who].Cells[key] = c
			}
		}
		b := knowing(t, known)
		agree(t, b, known, i)
		for key := range api.Keys {
			sum, value := 0, 0
			for who := range api.Slots {
				sum += b.Rights(who, key)
				value += known[who].Cells[key].In - known[who].Cells[key].Out
			}
			if sum != value || b.Value(key) != value {
				t.Fatalf("%d: key %d: all Rights are %d, Value %d: want %d", i, key, sum, b.Value(key), value)
			}
		}
	}
}

// wild answers a row of numbers at chance, few of which may be.
func wild(r *rand.Rand) api.Row {
	edges := []int{0, 0, 0, 1, 2, api.MaxNum, api.MaxNum + 1, -1, math.MaxInt, math.MinInt}
	number := func() int {
		if r.Intn(20) > 0 {
			return r.Intn(3)
		}
		return edges[r.Intn(len(edges))]
	}
	cells := func(l *[api.Keys]api.Cell) {
		for key := range l {
			l[key].In, l[key].Out = number(), number()
			l[key].Given[r.Intn(api.Slots)] = number()
		}
	}
	x := api.Row{Version: number() + r.Intn(50)}
	if r.Intn(2) == 0 {
		cells(&x.Cells)
	}
	for i := range api.Slots {
		if r.Intn(3) == 0 {
			x.Heir[i] = number()
		}
		if x.Heir[i] != 0 || r.Intn(40) == 0 {
			cells(&x.Left[i])
		}
	}
	return x
}

// Whatever is handed in: no call panics, and a row is known if it is Right by
// layer 4, and later.
func TestAnyArguments(t *testing.T) {
	r := rand.New(rand.NewSource(6))
	machines := append([]int{0, 1, 2, 3, 4}, noMachine...)
	keys := append([]int{0, 1, 2, 3}, noKey...)
	merged := 0
	for i := range 500 {
		var b book.Book
		var known rows
		for range 20 {
			who, x := machines[r.Intn(len(machines))], wild(r)
			before := x
			want := who >= 0 && who < api.Slots && row.Right(x) && x.Version > known[who].Version
			if got := b.Merge(who, x); got != want {
				t.Fatalf("%d: Merge(%d, %v): %v", i, who, x, got)
			}
			if x != before {
				t.Fatal("Merge changed what it was handed")
			}
			if want {
				known[who] = x
				merged++
			}
			b.Row(who)
			for _, key := range keys {
				b.Value(key)
				b.Cell(who, key)
				b.Rights(who, key)
			}
		}
		agree(t, &b, known, i)
	}
	if merged < 500 {
		t.Fatalf("%d rows were merged alone", merged)
	}
}
