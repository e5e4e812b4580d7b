package row

import (
	"math"
	"math/rand"
	"slices"
	"testing"

	"legatee/api"
)

// none are numbers beside the machines and keys; of these the first are those
// right beside them.
var (
	noKey     = []int{-1, api.Keys, api.Keys + 1, api.Slots, 64, -api.Keys, math.MaxInt, math.MinInt}
	noMachine = []int{-1, api.Slots, api.Slots + 1, 64, -api.Slots, math.MaxInt, math.MinInt}
	noNumber  = []int{0, -1, -5, api.MaxNum + 1, 2 * api.MaxNum, math.MaxInt, math.MinInt}
)

// counting answers cells whose numbers all differ: from, from+1 and so on.
func counting(from int) [api.Keys]api.Cell {
	var l [api.Keys]api.Cell
	for key := range l {
		l[key].In, l[key].Out = from, from+1
		from += 2
		for to := range l[key].Given {
			l[key].Given[to] = from
			from++
		}
	}
	return l
}

// full answers a row whose numbers all differ, that came into the rows of dead.
func full(from int, dead ...int) api.Row {
	x := api.Row{Version: from, Cells: counting(from + 100)}
	for _, i := range dead {
		x.Heir[i] = from + 10 + i
		x.Left[i] = counting(from + 200 + 100*i)
	}
	return x
}

// members answers the machines of a set of bits.
func members(bits int) []int {
	var l []int
	for i := range api.Slots {
		if bits&(1<<i) != 0 {
			l = append(l, i)
		}
	}
	return l
}

// sets is how many sets of machines there are.
const sets = 1 << api.Slots

// An amount is a number of a cell, by name, and where it is.
type amount struct {
	name string
	at   func(c *api.Cell) *int
}

// amounts answers all numbers of a cell.
func amounts() []amount {
	l := []amount{
		{"In", func(c *api.Cell) *int { return &c.In }},
		{"Out", func(c *api.Cell) *int { return &c.Out }},
	}
	for to := range api.Slots {
		l = append(l, amount{"Given " + string(rune('0'+to)), func(c *api.Cell) *int { return &c.Given[to] }})
	}
	return l
}

func TestRightOfRowsThatMayBe(t *testing.T) {
	if !Right(api.Row{}) {
		t.Fatal("a row of nothing isn't Right")
	}
	for bits := range sets {
		if x := full(1, members(bits)...); !Right(x) {
			t.Fatalf("heir of %v: not Right: %v", members(bits), x)
		}
	}
	if !Right(api.Row{Version: math.MaxInt}) {
		t.Fatal("no version is too great")
	}
}

func TestRightAsksForAVersion(t *testing.T) {
	for _, version := range []int{-1, -2, math.MinInt} {
		x := full(1, 2)
		x.Version = version
		if Right(x) {
			t.Fatalf("Version %d: Right", version)
		}
		if Right(api.Row{Version: version}) {
			t.Fatalf("Version %d of nothing: Right", version)
		}
	}
	if !Right(api.Row{Version: 0}) || !Right(api.Row{Version: 1}) {
		t.Fatal("Version 0, or 1: not Right")
	}
}

// holders answers how one comes to the cells that a row has: its own, and
// those of each machine that it came into.
func holders() []func(x *api.Row) *[api.Keys]api.Cell {
	l := []func(x *api.Row) *[api.Keys]api.Cell{
		func(x *api.Row) *[api.Keys]api.Cell { return &x.Cells },
	}
	for i := range api.Slots {
		l = append(l, func(x *api.Row) *[api.Keys]api.Cell {
			if x.Heir[i] == 0 {
				x.Heir[i] = 1
			}
			return &x.Left[i]
		})
	}
	return l
}

func TestRightOfEachNumber(t *testing.T) {
	wants := map[int]bool{
		0: true, 1: true, api.MaxNum - 1: true, api.MaxNum: true,
		-1: false, api.MaxNum + 1: false, -api.MaxNum: false, math.MaxInt: false, math.MinInt: false,
	}
	for h, cells := range holders() {
		for key := range api.Keys {
			for _, a := range amounts() {
				for n, want := range wants {
					var x api.Row
					*a.at(&cells(&x)[key]) = n
					if got := Right(x); got != want {
						t.Fatalf("cells %d, key %d, %s %d: %v", h, key, a.name, n, got)
					}
				}
			}
		}
	}
}

func TestRightOfWhatWasGivenInAll(t *testing.T) {
	fifth := api.MaxNum / api.Slots
	even := [api.Slots]int{fifth, fifth, fifth, fifth, api.MaxNum - 4*fifth}
	cases := []struct {
		given [api.Slots]int
		want  bool
	}{
		{[api.Slots]int{api.MaxNum}, true},
		{[api.Slots]int{0, api.MaxNum}, true},
		{[api.Slots]int{api.MaxNum, 1}, false},
		{[api.Slots]int{1, 0, 0, 0, api.MaxNum}, false},
		{[api.Slots]int{api.MaxNum - 1, 0, 0, 0, 1}, true},
		{[api.Slots]int{0, api.MaxNum / 2, 0, api.MaxNum / 2}, true},
		{[api.Slots]int{0, api.MaxNum / 2, 1, api.MaxNum / 2}, false},
		{[api.Slots]int{api.MaxNum, api.MaxNum, api.MaxNum, api.MaxNum, api.MaxNum}, false},
		{even, true},
		// These wrap round to a sum that may be.
		{[api.Slots]int{math.MaxInt, math.MaxInt, 2}, false},
		{[api.Slots]int{math.MinInt, math.MinInt}, false},
		// What was given can't be less than nothing, whatever makes up for it.
		{[api.Slots]int{-1, 1}, false},
		{[api.Slots]int{5, 0, 0, -1}, false},
	}
	for to := range api.Slots {
		over := even
		over[to]++
		cases = append(cases, struct {
			given [api.Slots]int
			want  bool
		}{over, false})
	}
	for h, cells := range holders() {
		for key := range api.Keys {
			for _, c := range cases {
				var x api.Row
				cells(&x)[key].Given = c.given
				if got := Right(x); got != c.want {
					t.Fatalf("cells %d, key %d, Given %v: %v", h, key, c.given, got)
				}
			}
		}
	}
}

// much answers a cell of which nothing may be more, all given to one machine.
func much(to int) api.Cell {
	c := api.Cell{In: api.MaxNum, Out: api.MaxNum}
	c.Given[to] = api.MaxNum
	return c
}

// In, Out, and Given of a cell, the cells of several keys, and those of
// several machines are no sum: each may be as great as one alone.
func TestRightOfMuchEverywhere(t *testing.T) {
	var x api.Row
	for _, cells := range holders() {
		for key := range api.Keys {
			cells(&x)[key] = much(key)
		}
	}
	if !Right(x) {
		t.Fatal("MaxNum everywhere: not Right")
	}
}

func TestRightOfHeirs(t *testing.T) {
	for i := range api.Slots {
		for heir, want := range map[int]bool{
			0: true, 1: true, 2: true, api.MaxNum + 1: true, math.MaxInt: true,
			-1: false, -2: false, math.MinInt: false,
		} {
			x := api.Row{Version: 1}
			x.Heir[i] = heir
			if got := Right(x); got != want {
				t.Fatalf("Heir of %d is %d: %v", i, heir, got)
			}
		}
		x := api.Row{Version: 1}
		x.Heir[i], x.Left[i] = -1, counting(1)
		if Right(x) {
			t.Fatalf("Heir of %d is -1, Left isn't empty: Right", i)
		}
	}
}

func TestRightOfWhatItDidNotComeInto(t *testing.T) {
	for i := range api.Slots {
		for key := range api.Keys {
			for _, a := range amounts() {
				// The others are such that it came into.
				for _, dead := range [][]int{nil, members((sets - 1) &^ (1 << i))} {
					x := full(1, dead...)
					*a.at(&x.Left[i][key]) = 1
					if Right(x) {
						t.Fatalf("heir of %v: Left of %d, key %d, %s: Right", dead, i, key, a.name)
					}
					x.Heir[i] = 1
					if !Right(x) {
						t.Fatalf("heir of %v and %d: Left of %d, key %d, %s: not Right", dead, i, i, key, a.name)
					}
				}
			}
		}
	}
}

// A growth is a call that makes a number of a cell greater.
type growth struct {
	amount
	call func(x api.Row, key, n int) (api.Row, api.Errno)
}

// growths answers all of them: Give is one for each machine.
func growths() []growth {
	l := amounts()
	all := []growth{{l[0], Inc}, {l[1], Dec}}
	for to, a := range l[2:] {
		all = append(all, growth{a, func(x api.Row, key, n int) (api.Row, api.Errno) { return Give(x, key, n, to) }})
	}
	return all
}

// fails asks that a call answered that error, and nothing beside it.
func fails(t *testing.T, x api.Row, err, want api.Errno, what ...any) {
	t.Helper()
	if err != want || x != (api.Row{}) {
		t.Fatalf("%v: error %d, row %v: want error %d, a row of nothing", what, err, x, want)
	}
}

func TestExamples(t *testing.T) {
	x, err := Inc(api.Row{}, 0, 5)
	if err != api.OK || x.Version != 1 || x.Cells[0].In != 5 {
		t.Fatal(x, err)
	}
	x, err = Dec(x, 0, 2)
	if err != api.OK || x.Version != 2 || x.Cells[0] != (api.Cell{In: 5, Out: 2}) {
		t.Fatal(x, err)
	}
	x, err = Give(x, 0, 3, 1)
	if err != api.OK || x.Version != 3 || x.Cells[0] != (api.Cell{In: 5, Out: 2, Given: [api.Slots]int{1: 3}}) {
		t.Fatal(x, err)
	}
	x, err = Inc(x, 3, 1)
	want := api.Row{Version: 4}
	want.Cells[0] = api.Cell{In: 5, Out: 2, Given: [api.Slots]int{1: 3}}
	want.Cells[3].In = 1
	if err != api.OK || x != want {
		t.Fatal(x, err)
	}
}

func TestGrowthChangesOneNumber(t *testing.T) {
	for _, g := range growths() {
		for key := range api.Keys {
			for _, n := range []int{1, 2, 7, 1000, api.MaxNum / 2} {
				for _, x := range []api.Row{{}, full(1), full(30, 0, 4), full(1, members(sets-1)...)} {
					before, want := x, x
					*g.at(&want.Cells[key]) += n
					want.Version++
					got, err := g.call(x, key, n)
					if err != api.OK || got != want {
						t.Fatalf("%s, key %d, %d more: error %d, %v: want %v", g.name, key, n, err, got, want)
					}
					if x != before {
						t.Fatalf("%s, key %d, %d more: it changed the row that it was handed", g.name, key, n)
					}
				}
			}
		}
	}
}

func TestGrowthUpToMaxNum(t *testing.T) {
	for _, g := range growths() {
		for key := range api.Keys {
			for _, has := range []int{0, 1, 2, 500, api.MaxNum / 2, api.MaxNum - 2, api.MaxNum - 1, api.MaxNum} {
				for _, n := range []int{1, 2, 500, api.MaxNum / 2, api.MaxNum - 2, api.MaxNum - 1, api.MaxNum} {
					x := api.Row{Version: 9}
					*g.at(&x.Cells[key]) = has
					got, err := g.call(x, key, n)
					if has+n > api.MaxNum {
						fails(t, got, err, api.ErrOver, g.name, key, has, n)
						continue
					}
					want := api.Row{Version: 10}
					*g.at(&want.Cells[key]) = has + n
					if err != api.OK || got != want {
						t.Fatalf("%s, key %d: %d and %d: error %d, %v", g.name, key, has, n, err, got)
					}
				}
			}
		}
	}
}

// Only what grows is asked whether it is too much: nothing else of the cell,
// no other key's, and nothing that it came into.
func TestGrowthBesideMuch(t *testing.T) {
	for g, grown := range growths() {
		for key := range api.Keys {
			var x api.Row
			for _, cells := range holders() {
				for k := range api.Keys {
					cells(&x)[k] = much(k)
				}
			}
			if g < 2 {
				*grown.at(&x.Cells[key]) = 0
			} else {
				x.Cells[key].Given = [api.Slots]int{}
			}
			want := x
			*grown.at(&want.Cells[key]) = api.MaxNum
			want.Version++
			got, err := grown.call(x, key, api.MaxNum)
			if err != api.OK || got != want {
				t.Fatalf("%s, key %d: error %d, %v", grown.name, key, err, got)
			}
			got, err = grown.call(want, key, 1)
			fails(t, got, err, api.ErrOver, grown.name, key)
		}
	}
}

func TestGiveAsksForAllThatWasGiven(t *testing.T) {
	for key := range api.Keys {
		for had := range api.Slots {
			for to := range api.Slots {
				var x api.Row
				x.Cells[key].Given[had] = api.MaxNum - 5
				got, err := Give(x, key, 5, to)
				want := x
				want.Cells[key].Given[to] += 5
				want.Version = 1
				if err != api.OK || got != want {
					t.Fatalf("key %d, from %d to %d: error %d, %v", key, had, to, err, got)
				}
				got, err = Give(x, key, 6, to)
				fails(t, got, err, api.ErrOver, key, had, to)
				// All that was given by another key is not of it.
				got, err = Give(x, (key+1)%api.Keys, 6, to)
				if err != api.OK || got.Cells[(key+1)%api.Keys].Given[to] != 6 {
					t.Fatalf("another key than %d: error %d, %v", key, err, got)
				}
			}
		}
	}
	x := api.Row{Version: 3}
	x.Cells[1].Given = [api.Slots]int{1, 2, 3, 4, api.MaxNum - 12}
	for to := range api.Slots {
		got, err := Give(x, 1, 3, to)
		fails(t, got, err, api.ErrOver, to)
		if got, err = Give(x, 1, 2, to); err != api.OK || !Right(got) {
			t.Fatalf("to %d: error %d, %v", to, err, got)
		}
	}
}

func TestGrowthOfNoKey(t *testing.T) {
	for _, g := range growths() {
		for _, key := range noKey {
			for _, n := range []int{1, 5, api.MaxNum} {
				got, err := g.call(full(1, 3), key, n)
				fails(t, got, err, api.ErrArg, g.name, key, n)
			}
		}
	}
}

func TestGrowthByNoNumber(t *testing.T) {
	for _, g := range growths() {
		for key := range api.Keys {
			for _, n := range noNumber {
				for _, x := range []api.Row{{}, full(1, 3)} {
					got, err := g.call(x, key, n)
					fails(t, got, err, api.ErrArg, g.name, key, n)
				}
			}
		}
	}
}

func TestGiveToNoMachine(t *testing.T) {
	for _, to := range noMachine {
		for key := range api.Keys {
			for _, n := range []int{1, 5, api.MaxNum} {
				got, err := Give(full(1, 3), key, n, to)
				fails(t, got, err, api.ErrArg, to, key, n)
			}
		}
	}
}

func TestGrowthErrorsOrder(t *testing.T) {
	var x api.Row
	for key := range api.Keys {
		x.Cells[key] = much(2)
	}
	for _, g := range growths() {
		got, err := g.call(x, 0, api.MaxNum+1)
		fails(t, got, err, api.ErrArg, g.name)
		got, err = g.call(x, 0, 0)
		fails(t, got, err, api.ErrArg, g.name)
		got, err = g.call(x, api.Keys, 1)
		fails(t, got, err, api.ErrArg, g.name)
		got, err = g.call(x, 0, 1)
		fails(t, got, err, api.ErrOver, g.name)
	}
	got, err := Give(x, 0, 1, api.Slots)
	fails(t, got, err, api.ErrArg, "no machine, and too much")
	got, err = Give(x, -1, 0, -1)
	fails(t, got, err, api.ErrArg, "nothing that is any")
}

func TestInheritOfOneRow(t *testing.T) {
	for who := range api.Slots {
		for _, x := range []api.Row{{}, full(7), {Version: 4}} {
			for _, dead := range []api.Row{{}, {Version: 1}, full(60), {Version: api.MaxNum}} {
				beforeX, beforeDead, want := x, dead, x
				want.Version++
				want.Heir[who] = dead.Version + 1
				want.Left[who] = dead.Cells
				got, err := Inherit(x, who, dead)
				if err != api.OK || got != want {
					t.Fatalf("%d: error %d, %v: want %v", who, err, got, want)
				}
				if x != beforeX || dead != beforeDead {
					t.Fatalf("%d: it changed a row that it was handed", who)
				}
				if !Right(got) {
					t.Fatalf("%d: not Right: %v", who, got)
				}
				again, err := Inherit(got, who, dead)
				fails(t, again, err, api.ErrBusy, who)
			}
		}
	}
}

// inherited is what Inherit answers where it has no error, place by place.
func inherited(x api.Row, who int, dead api.Row) api.Row {
	want := api.Row{Version: x.Version + 1, Cells: x.Cells}
	for i := range api.Slots {
		switch {
		case i == who:
			want.Heir[i], want.Left[i] = dead.Version+1, dead.Cells
		case x.Heir[i] > 0:
			want.Heir[i], want.Left[i] = x.Heir[i], x.Left[i]
		case dead.Heir[i] > 0:
			want.Heir[i], want.Left[i] = dead.Heir[i], dead.Left[i]
		}
	}
	return want
}

func TestInheritOfAllSets(t *testing.T) {
	for who := range api.Slots {
		for had := range sets {
			for came := range sets {
				// Once x is the later one, and once dead is: it doesn't matter.
				for _, from := range [][2]int{{1, 1001}, {1001, 1}} {
					x, dead := full(from[0], members(had)...), full(from[1], members(came)...)
					got, err := Inherit(x, who, dead)
					if had&(1<<who) != 0 {
						fails(t, got, err, api.ErrBusy, who, had, came)
						continue
					}
					if want := inherited(x, who, dead); err != api.OK || got != want {
						t.Fatalf("%d, of %v, into %v: error %d, %v: want %v", who, members(had), members(came), err, got, want)
					}
					if !Right(got) {
						t.Fatalf("%d, of %v, into %v: not Right", who, members(had), members(came))
					}
				}
			}
		}
	}
}

// The least Heir that tells of a row is 1: that of a row of Version 0.
func TestInheritOfFirstVersions(t *testing.T) {
	for who := range api.Slots {
		for other := range api.Slots {
			if other == who {
				continue
			}
			dead := full(9)
			dead.Heir[other], dead.Left[other] = 1, counting(70)
			got, err := Inherit(full(3), who, dead)
			if want := inherited(full(3), who, dead); err != api.OK || got != want {
				t.Fatalf("%d, that came into %d: error %d, %v: want %v", who, other, err, got, want)
			}
			x := full(3)
			x.Heir[other], x.Left[other] = 1, counting(80)
			dead.Heir[other] = 9
			got, err = Inherit(x, who, dead)
			if want := inherited(x, who, dead); err != api.OK || got != want || got.Heir[other] != 1 {
				t.Fatalf("%d, that came into %d, as it itself: error %d, %v: want %v", who, other, err, got, want)
			}
			got, err = Inherit(x, other, dead)
			fails(t, got, err, api.ErrBusy, other)
		}
	}
}

func TestInheritThroughSeveral(t *testing.T) {
	a, b, c := full(5), full(40), full(80)
	b, err := Inherit(b, 0, a)
	if err != api.OK {
		t.Fatal(err)
	}
	c, err = Inherit(c, 1, b)
	if err != api.OK {
		t.Fatal(err)
	}
	if c.Version != 81 || c.Heir != [api.Slots]int{6, 42} {
		t.Fatal(c.Version, c.Heir)
	}
	if c.Left[0] != a.Cells || c.Left[1] != b.Cells || c.Cells != counting(180) {
		t.Fatal(c)
	}
	got, err := Inherit(c, 0, a)
	fails(t, got, err, api.ErrBusy, "it came with another one")
}

func TestInheritOfNoMachine(t *testing.T) {
	all := full(1, members(sets-1)...)
	for _, who := range noMachine {
		for _, x := range []api.Row{{}, full(1, 2), all} {
			got, err := Inherit(x, who, full(9, 0))
			fails(t, got, err, api.ErrArg, who)
		}
	}
}

func TestOwn(t *testing.T) {
	for who := range api.Slots {
		for bits := range sets {
			x := full(3, members(bits)...)
			want := members(bits | 1<<who)
			if got := Own(x, who); !slices.Equal(got, want) {
				t.Fatalf("%d, heir of %v: %v", who, members(bits), got)
			}
		}
	}
	if got := Own(api.Row{}, 2); !slices.Equal(got, []int{2}) {
		t.Fatal(got)
	}
}

// It is Heir that tells, not its height and not Left.
func TestOwnAsksHeirAlone(t *testing.T) {
	for i := range api.Slots {
		var x api.Row
		x.Heir[i] = 1
		if got, want := Own(x, 0), members(1|1<<i); !slices.Equal(got, want) {
			t.Fatalf("Heir of %d is 1: %v", i, got)
		}
		x.Heir[i] = math.MaxInt
		if got, want := Own(x, 4), members(16|1<<i); !slices.Equal(got, want) {
			t.Fatalf("Heir of %d is MaxInt: %v", i, got)
		}
		x.Heir[i], x.Left[i] = 0, counting(1)
		if got, want := Own(x, 3), members(8); !slices.Equal(got, want) {
			t.Fatalf("Heir of %d is 0, Left isn't empty: %v", i, got)
		}
		x.Heir[i] = -1
		if got, want := Own(x, 3), members(8); !slices.Equal(got, want) {
			t.Fatalf("Heir of %d is -1: %v", i, got)
		}
	}
}

// The words have who in the list, whatever number it is.
func TestOwnOfNoMachine(t *testing.T) {
	x := full(1, 1, 4)
	for _, who := range noMachine {
		want := []int{1, 4, who}
		slices.Sort(want)
		if got := Own(x, who); !slices.Equal(got, want) {
			t.Fatalf("%d: %v", who, got)
		}
	}
}

func TestOwnIsNewMemory(t *testing.T) {
	x := full(1, 0, 2, 4)
	a, b := Own(x, 2), Own(x, 2)
	for i := range a {
		a[i] = 77
	}
	if want := []int{0, 2, 4}; !slices.Equal(b, want) || !slices.Equal(Own(x, 2), want) {
		t.Fatal(b)
	}
}

func TestCell(t *testing.T) {
	for bits := range sets {
		x := full(3, members(bits)...)
		for who := range api.Slots {
			for of := range api.Slots {
				for key := range api.Keys {
					want, version := api.Cell{}, -1
					if bits&(1<<of) != 0 {
						want, version = counting(203 + 100*of)[key], 12+of
					}
					if of == who {
						want, version = counting(103)[key], 3
					}
					got, v := Cell(x, who, of, key)
					if got != want || v != version {
						t.Fatalf("heir of %v: %d's row of %d, key %d: %v, %d", members(bits), who, of, key, got, v)
					}
				}
			}
		}
	}
}

func TestCellOfVersionNothing(t *testing.T) {
	if c, v := Cell(api.Row{}, 3, 3, 0); c != (api.Cell{}) || v != 0 {
		t.Fatal(c, v)
	}
	if c, v := Cell(api.Row{}, 3, 2, 0); c != (api.Cell{}) || v != -1 {
		t.Fatal(c, v)
	}
	x, err := Inherit(api.Row{}, 2, api.Row{})
	if c, v := Cell(x, 3, 2, 0); err != api.OK || c != (api.Cell{}) || v != 0 {
		t.Fatal(c, v, err)
	}
}

func TestCellOfNothing(t *testing.T) {
	x := full(1, members(sets-1)...)
	none := func(who, of, key int) {
		t.Helper()
		if c, v := Cell(x, who, of, key); c != (api.Cell{}) || v != -1 {
			t.Fatalf("%d's row of %d, key %d: %v, %d", who, of, key, c, v)
		}
	}
	for _, key := range noKey {
		for of := range api.Slots {
			none(2, of, key)
		}
	}
	for _, m := range noMachine {
		for key := range api.Keys {
			none(2, m, key)
			none(m, 2, key)
			none(m, m, key)
			none(m, api.Slots, key)
		}
	}
}

// What left the row unsaid in Left, without an Heir, is no cell.
func TestCellAsksHeir(t *testing.T) {
	for of := range api.Slots {
		for _, heir := range []int{0, -1, math.MinInt} {
			x := full(1)
			x.Heir[of], x.Left[of] = heir, counting(9)
			if c, v := Cell(x, (of+1)%api.Slots, of, 1); c != (api.Cell{}) || v != -1 {
				t.Fatalf("Heir of %d is %d: %v, %d", of, heir, c, v)
			}
		}
	}
}

// step does one call at chance on a row, and answers what came of it.
func step(r *rand.Rand, x api.Row, other api.Row) (api.Row, api.Errno) {
	key, n, m := r.Intn(api.Keys+2)-1, 1<<r.Intn(42)-r.Intn(2), r.Intn(api.Slots+2)-1
	switch r.Intn(5) {
	case 0:
		return Inc(x, key, n)
	case 1:
		return Dec(x, key, n)
	case 2:
		return Inherit(x, m, other)
	}
	return Give(x, key, n, m)
}

// Each row that comes of rows that are Right is Right, and a version ahead.
func TestRowsStayRight(t *testing.T) {
	r := rand.New(rand.NewSource(4))
	seen := map[api.Errno]int{}
	for range 200 {
		var rows [2]api.Row
		for range 200 {
			i := r.Intn(2)
			got, err := step(r, rows[i], rows[1-i])
			seen[err]++
			if err != api.OK {
				fails(t, got, err, err)
				continue
			}
			if got.Version != rows[i].Version+1 || !Right(got) {
				t.Fatalf("%v became %v", rows[i], got)
			}
			rows[i] = got
		}
	}
	for _, err := range []api.Errno{api.OK, api.ErrArg, api.ErrOver, api.ErrBusy} {
		if seen[err] == 0 {
			t.Fatalf("error %d wasn't met", err)
		}
	}
}

// wild answers a row that has something of all numbers that there are.
func wild(r *rand.Rand) api.Row {
	edges := []int{0, 1, -1, 2, api.MaxNum, api.MaxNum + 1, -api.MaxNum, math.MaxInt, math.MinInt, math.MaxInt - 1}
	number := func() int {
		if r.Intn(3) == 0 {
			return r.Int() - r.Int()
		}
		return edges[r.Intn(len(edges))]
	}
	x := api.Row{Version: number()}
	cells := [1 + api.Slots]*[api.Keys]api.Cell{&x.Cells}
	for i := range api.Slots {
		x.Heir[i], cells[1+i] = number(), &x.Left[i]
	}
	for _, l := range cells {
		for key := range l {
			for _, a := range amounts() {
				*a.at(&l[key]) = number()
			}
		}
	}
	return x
}

func TestNoCallPanics(t *testing.T) {
	r := rand.New(rand.NewSource(5))
	machines := append([]int{0, 2, api.Slots - 1}, noMachine...)
	keys := append([]int{0, api.Keys - 1}, noKey...)
	numbers := append([]int{1, api.MaxNum}, noNumber...)
	for range 100 {
		x, y := wild(r), wild(r)
		before := [2]api.Row{x, y}
		Right(x)
		for _, m := range machines {
			Inherit(x, m, y)
			Own(x, m)
			for _, key := range keys {
				for _, of := range machines {
					Cell(x, m, of, key)
				}
				for _, n := range numbers {
					Inc(x, key, n)
					Dec(x, key, n)
					Give(x, key, n, m)
				}
			}
		}
		if before != [2]api.Row{x, y} {
			t.Fatal("a call changed a row that it was handed")
		}
	}
}
