package mirror_test

import (
	"math"
	"math/rand"
	"testing"

	"legatee/api"
	"legatee/mirror"
	"legatee/row"
)

// far are numbers that are no machines.
var far = []int{
	math.MinInt, math.MinInt + 1, -1<<32 + 1, -1 << 32, -1<<31 - 1, -1 << 31, -256, -65, -64, -63, -32, -6, -5, -4, -3, -2, -1,
	5, 6, 7, 8, 31, 32, 63, 64, 65, 127, 128, 255, 256, 257, 1<<31 - 1, 1 << 31, 1 << 32, 1<<32 + 1, math.MaxInt - 1, math.MaxInt,
}

// A sight is all that a Mirror tells of the machines that there are.
type sight struct {
	rows   [api.Slots]api.Row
	sealed [api.Slots]bool
}

// see asks m for that.
func see(m *mirror.Mirror) sight {
	var s sight
	for who := range api.Slots {
		s.rows[who], s.sealed[who] = m.Row(who), m.Sealed(who)
	}
	return s
}

// takes tells by the words, of rows that are Right, whether one is taken by a
// Mirror that has these.
func (s sight) takes(who int, x api.Row) bool {
	return who >= 0 && who < api.Slots && !s.sealed[who] && x.Version > s.rows[who].Version
}

// agree asks that m has just that, and takes what is above that alone.
func agree(t *testing.T, m *mirror.Mirror, want sight, what ...any) {
	t.Helper()
	got := see(m)
	for who := range api.Slots {
		if got.rows[who] != want.rows[who] {
			t.Fatalf("%v: Row of %d: %v: want %v", what, who, got.rows[who], want.rows[who])
		}
		if got.sealed[who] != want.sealed[who] {
			t.Fatalf("%v: Sealed of %d: %v", what, who, got.sealed[who])
		}
		version := want.rows[who].Version
		for _, v := range []int{version - 1, version, version + 1} {
			// One above int's greatest is none.
			x := api.Row{Version: v}
			if took := m.Takes(who, x); took != (v >= 0 && want.takes(who, x)) {
				t.Fatalf("%v: Takes of %d, Version %d, beside %d: %v", what, who, v, version, took)
			}
		}
	}
}

// keeps has m asked whether it Takes x, and then Keep it: both must tell that.
func keeps(t *testing.T, m *mirror.Mirror, who int, x api.Row, want bool, what ...any) {
	t.Helper()
	before, y := see(m), x
	if got := m.Takes(who, x); got != want {
		t.Fatalf("%v: Takes of %d, Version %d: %v", what, who, x.Version, got)
	}
	if see(m) != before {
		t.Fatalf("%v: Takes of %d changed what is kept", what, who)
	}
	if got := m.Keep(who, x); got != want {
		t.Fatalf("%v: Keep of %d, Version %d: %v, but Takes: %v", what, who, x.Version, got, want)
	}
	if x != y {
		t.Fatalf("%v: what was handed in was changed", what)
	}
	if want {
		before.rows[who] = x
	}
	if see(m) != before {
		t.Fatalf("%v: Keep of %d, %v: another row, or seal, is another one now", what, who, want)
	}
}

// seals has m Seal who, whose row that must be.
func seals(t *testing.T, m *mirror.Mirror, who int, want api.Row, what ...any) {
	t.Helper()
	before := see(m)
	if x, ok := m.Seal(who); !ok || x != want {
		t.Fatalf("%v: Seal of %d: %v, %v: want %v", what, who, x, ok, want)
	}
	before.sealed[who] = true
	if see(m) != before {
		t.Fatalf("%v: Seal of %d: another row, or seal, is another one now", what, who)
	}
}

// counting answers cells whose numbers all differ: from, from+1 and so on.
func counting(from int) [api.Keys]api.Cell {
	var l [api.Keys]api.Cell
	for key := range l {
		l[key].In, l[key].Out = from, from+1
		from += 2
		for to := range l[key].Given {
			l[key].Given[to] = from
			from++
		}
	}
	return l
}

// full answers a row whose numbers all differ, that came into the rows of dead.
func full(version, from int, dead ...int) api.Row {
	x := api.Row{Version: version, Cells: counting(from)}
	for _, i := range dead {
		x.Heir[i] = from + i
		x.Left[i] = counting(from + 100*(1+i))
	}
	return x
}

// having answers a Mirror that has these rows (those of Version 0 are none),
// and seals.
func having(t *testing.T, s sight) *mirror.Mirror {
	t.Helper()
	m := new(mirror.Mirror)
	for who, x := range s.rows {
		if x.Version > 0 {
			keeps(t, m, who, x, true, "having")
		}
		if s.sealed[who] {
			seals(t, m, who, x, "having")
		}
	}
	return m
}

// only answers what a Mirror has that has one row.
func only(who int, x api.Row) sight {
	var s sight
	s.rows[who] = x
	return s
}

// several answers what a Mirror has that has a row of each machine but the
// third, two of them sealed.
func several() sight {
	return sight{
		[api.Slots]api.Row{full(3, 10), full(9, 200, 0, 4), {}, full(1, 300, 0, 1, 2, 3, 4), full(math.MaxInt-1, 400)},
		[api.Slots]bool{1: true, 4: true},
	}
}

// states answers Mirrors of all kinds, and what each has.
func states(t *testing.T) ([]*mirror.Mirror, []sight) {
	t.Helper()
	apart := several()
	apart.sealed = [api.Slots]bool{}
	all := several()
	all.sealed = [api.Slots]bool{true, true, true, true, true}
	l := []sight{{}, several(), apart, all, {sealed: all.sealed}}
	var ms []*mirror.Mirror
	for _, s := range l {
		ms = append(ms, having(t, s))
	}
	return ms, l
}

// grown answers rows of which each comes of that ahead of it, by layer 4.
func grown(t *testing.T) []api.Row {
	t.Helper()
	var l []api.Row
	step := func(x api.Row, err api.Errno) {
		t.Helper()
		if err != api.OK {
			t.Fatalf("row %d: error %d", len(l), err)
		}
		l = append(l, x)
	}
	last := func() api.Row { return l[len(l)-1] }
	step(row.Inc(api.Row{}, 0, 9))
	step(row.Dec(last(), 0, 4))
	step(row.Give(last(), 0, 3, 1))
	step(row.Inc(last(), 3, api.MaxNum))
	step(row.Inherit(last(), 2, last()))
	step(row.Inherit(last(), 4, api.Row{}))
	step(row.Give(last(), 3, api.MaxNum, 4))
	return l
}

func TestExample(t *testing.T) {
	l := grown(t)
	for who := range api.Slots {
		var m mirror.Mirror
		for i, x := range l[:3] {
			keeps(t, &m, who, x, true, who, i)
			agree(t, &m, only(who, x), who, i)
		}
		want := only(who, l[2])
		seals(t, &m, who, l[2], who)
		want.sealed[who] = true
		for i, x := range l {
			keeps(t, &m, who, x, false, who, i, "behind Seal")
			agree(t, &m, want, who, i, "behind Seal")
		}
	}
}

func TestMirrorMadeByNobody(t *testing.T) {
	var m mirror.Mirror
	agree(t, &m, sight{})
	agree(t, new(mirror.Mirror), sight{})
	agree(t, &mirror.Mirror{}, sight{})
	for who := range api.Slots {
		// Each call works if it is the first one.
		x := full(1, 50)
		if new(mirror.Mirror).Row(who) != (api.Row{}) || new(mirror.Mirror).Sealed(who) {
			t.Fatalf("%d: something is kept, or sealed", who)
		}
		if !new(mirror.Mirror).Takes(who, x) || !new(mirror.Mirror).Keep(who, x) {
			t.Fatalf("%d: nothing is kept", who)
		}
		if y, ok := new(mirror.Mirror).Seal(who); !ok || y != (api.Row{}) {
			t.Fatalf("%d: Seal: %v, %v", who, y, ok)
		}
	}
}

// The rows of one machine, of layer 4, each of which is later than that ahead.
func TestKeepOfRowsThatGrow(t *testing.T) {
	l := grown(t)
	for who := range api.Slots {
		var m mirror.Mirror
		for i, x := range l {
			keeps(t, &m, who, x, true, who, i)
			agree(t, &m, only(who, x), who, i)
			for j, y := range l[:i+1] {
				keeps(t, &m, who, y, false, who, i, j)
			}
			agree(t, &m, only(who, x), who, i)
		}
	}
}

func TestKeepByVersion(t *testing.T) {
	versions := []int{1, 2, 3, 7, 1 << 31, 1 << 32, 1<<32 + 1, api.MaxNum, api.MaxNum + 1, math.MaxInt - 1, math.MaxInt}
	for who := range api.Slots {
		for _, known := range versions {
			for _, version := range append([]int{0}, versions...) {
				x, y := full(known, 500, (who+1)%api.Slots), full(version, 9000, (who+2)%api.Slots)
				same := x
				same.Version = version
				for _, z := range []api.Row{y, same, {Version: version}} {
					m, want := having(t, only(who, x)), only(who, x)
					keeps(t, m, who, z, version > known, who, known)
					if version > known {
						want = only(who, z)
					}
					agree(t, m, want, who, known, version)
				}
			}
		}
	}
}

// Just that version, one below it, and one above it, whatever else the row has.
func TestKeepBesideAVersion(t *testing.T) {
	for who := range api.Slots {
		for _, version := range []int{1, 2, 5, 1000, math.MaxInt - 1} {
			x := full(version, 300)
			m := having(t, only(who, x))
			for _, y := range []api.Row{x, full(version, 700), full(version-1, 700), {Version: version}, {Version: version - 1}, {}} {
				keeps(t, m, who, y, false, who, version)
				agree(t, m, only(who, x), who, version, y.Version)
			}
			y := full(version+1, 700)
			keeps(t, m, who, y, true, who, version)
			agree(t, m, only(who, y), who, version)
			keeps(t, m, who, y, false, who, version, "again")
			keeps(t, m, who, x, false, who, version, "again")
			agree(t, m, only(who, y), who, version)
		}
	}
}

// A Mirror has rows of Version 0 from its beginning on: none is later.
func TestKeepOfVersionNothing(t *testing.T) {
	for who := range api.Slots {
		var m mirror.Mirror
		for i, x := range []api.Row{{}, full(0, 10), full(0, 10, (who+1)%api.Slots), full(0, 10, 0, 1, 2, 3, 4)} {
			keeps(t, &m, who, x, false, who, i)
			agree(t, &m, sight{}, who, i)
		}
		keeps(t, &m, who, api.Row{Version: 1}, true, who)
		agree(t, &m, only(who, api.Row{Version: 1}), who)
	}
}

// A later row is kept whole, be it less than that ahead of it, or nothing.
func TestKeepIsWhole(t *testing.T) {
	for who := range api.Slots {
		m := having(t, only(who, full(3, 800, 0, 1, 2, 3, 4)))
		for i, x := range []api.Row{
			full(4, 20, (who+1)%api.Slots), {Version: 5}, full(6, 600, (who+3)%api.Slots),
			full(9, 1), full(10, 5000, 0, 1, 2, 3, 4), {Version: 11},
		} {
			keeps(t, m, who, x, true, who, i)
			agree(t, m, only(who, x), who, i)
		}
	}
}

// The row, the version, and the seal of one machine are nothing to another one.
func TestMachinesAreApart(t *testing.T) {
	var m mirror.Mirror
	var want sight
	for _, who := range []int{3, 0, 4, 1, 2} {
		want.rows[who] = full(20-who, 1000*(who+1))
		keeps(t, &m, who, want.rows[who], true)
		agree(t, &m, want, who)
	}
	for _, who := range []int{1, 4, 2, 0, 3} {
		want.rows[who] = full(21-who, 1000*(who+10), (who+1)%api.Slots)
		keeps(t, &m, who, want.rows[who], true)
		agree(t, &m, want, who)
	}
	same := full(30, 7)
	for who := range api.Slots {
		want.rows[who] = same
		keeps(t, &m, who, same, true)
		agree(t, &m, want, who)
	}
	for i, who := range []int{2, 4, 0, 3, 1} {
		seals(t, &m, who, want.rows[who])
		want.sealed[who] = true
		agree(t, &m, want, who, "sealed")
		for other := range api.Slots {
			x := full(31+i, 70+other)
			keeps(t, &m, other, x, !want.sealed[other], who)
			if !want.sealed[other] {
				want.rows[other] = x
			}
			agree(t, &m, want, who, other)
		}
	}
}

// A row is kept of the machine that Keep names, be it among those that the row
// came into, or not.
func TestKeepOfHeirsRows(t *testing.T) {
	for who := range api.Slots {
		for dead := range api.Slots {
			var m mirror.Mirror
			x := full(8, 60, dead)
			keeps(t, &m, who, x, true, who, dead)
			agree(t, &m, only(who, x), who, dead)
			if dead == who {
				continue
			}
			seals(t, &m, dead, api.Row{}, who)
			x.Version++
			keeps(t, &m, who, x, true, who, dead, "sealed")
			want := only(who, x)
			want.sealed[dead] = true
			agree(t, &m, want, who, dead)
		}
	}
}

// What is sealed of all sets of machines, with a row and without one.
func TestSealOfAllSets(t *testing.T) {
	for bits := range 1 << api.Slots {
		for had := range 1 << api.Slots {
			var m mirror.Mirror
			var want sight
			for who := range api.Slots {
				if had&(1<<who) != 0 {
					want.rows[who] = full(5+who, 100*(1+who))
					keeps(t, &m, who, want.rows[who], true)
				}
			}
			for who := range api.Slots {
				if bits&(1<<who) != 0 {
					seals(t, &m, who, want.rows[who], bits, had)
					want.sealed[who] = true
				}
			}
			agree(t, &m, want, bits, had)
			for who := range api.Slots {
				x := full(9+who, 900)
				keeps(t, &m, who, x, want.takes(who, x), bits, had)
				if !want.sealed[who] {
					want.rows[who] = x
				}
			}
			agree(t, &m, want, bits, had, "later")
		}
	}
}

// A Seal that comes again answers the same row, and lets none be kept.
func TestSealTwice(t *testing.T) {
	for who := range api.Slots {
		for _, x := range []api.Row{{}, full(1, 10), full(7, 40, 1, 3), full(math.MaxInt, 90)} {
			want := only(who, x)
			m := having(t, want)
			want.sealed[who] = true
			for i := range 3 {
				seals(t, m, who, x, who, i)
				agree(t, m, want, who, i)
				for _, version := range []int{0, 1, 2, 7, 8, 9, math.MaxInt - 1, math.MaxInt} {
					keeps(t, m, who, full(version, 700), false, who, i)
				}
				agree(t, m, want, who, i, "later")
			}
		}
	}
}

// One of whom nothing was kept is sealed like others: its row is none for ever.
func TestSealOfNothing(t *testing.T) {
	for who := range api.Slots {
		m, want := having(t, only((who+1)%api.Slots, full(4, 30))), only((who+1)%api.Slots, full(4, 30))
		seals(t, m, who, api.Row{}, who)
		want.sealed[who] = true
		for i, x := range grown(t) {
			keeps(t, m, who, x, false, who, i)
			agree(t, m, want, who, i)
		}
		// What wasn't kept doesn't come in by a Seal.
		seals(t, m, who, api.Row{}, who)
		agree(t, m, want, who)
	}
}

// A row that wasn't kept isn't what is sealed.
func TestSealOfWhatWasKept(t *testing.T) {
	for who := range api.Slots {
		x := full(6, 20, 2)
		m := having(t, only(who, x))
		wrong := full(7, 80)
		wrong.Cells[0].In = -1
		for i, y := range []api.Row{full(6, 90), full(5, 90), {}, wrong} {
			keeps(t, m, who, y, false, who, i)
		}
		if !m.Takes(who, full(7, 80)) {
			t.Fatalf("%d: a later row isn't taken", who)
		}
		seals(t, m, who, x, who)
		want := only(who, x)
		want.sealed[who] = true
		agree(t, m, want, who)
	}
}

func TestNoMachine(t *testing.T) {
	ms, l := states(t)
	for i, m := range ms {
		for _, who := range far {
			for _, x := range []api.Row{{}, {Version: 1}, full(9, 1000), full(math.MaxInt, 1000, 2), {Version: -1}, full(math.MinInt, 10)} {
				if m.Takes(who, x) || m.Keep(who, x) {
					t.Fatalf("state %d: a row of %d, Version %d, is kept", i, who, x.Version)
				}
			}
			if x := m.Row(who); x != (api.Row{}) {
				t.Fatalf("state %d: Row of %d: %v", i, who, x)
			}
			if m.Sealed(who) {
				t.Fatalf("state %d: %d is sealed", i, who)
			}
			for range 2 {
				if x, ok := m.Seal(who); ok || x != (api.Row{}) {
					t.Fatalf("state %d: Seal of %d: %v, %v", i, who, x, ok)
				}
			}
			if m.Row(who) != (api.Row{}) || m.Sealed(who) || see(m) != l[i] {
				t.Fatalf("state %d: calls of %d changed something", i, who)
			}
		}
		agree(t, m, l[i], i)
	}
}

// A wrong is a row that isn't Right, and why.
type wrong struct {
	why string
	x   api.Row
}

// An amount is a number of a cell, by name, and where it is.
type amount struct {
	name string
	at   func(c *api.Cell) *int
}

// amounts answers all numbers of a cell.
func amounts() []amount {
	l := []amount{
		{"In", func(c *api.Cell) *int { return &c.In }},
		{"Out", func(c *api.Cell) *int { return &c.Out }},
	}
	for to := range api.Slots {
		l = append(l, amount{"Given " + string(rune('0'+to)), func(c *api.Cell) *int { return &c.Given[to] }})
	}
	return l
}

// holders answers how one comes to the cells of a row: its own, and those of
// each machine that it came into.
func holders() []func(x *api.Row) *[api.Keys]api.Cell {
	l := []func(x *api.Row) *[api.Keys]api.Cell{func(x *api.Row) *[api.Keys]api.Cell { return &x.Cells }}
	for i := range api.Slots {
		l = append(l, func(x *api.Row) *[api.Keys]api.Cell { return &x.Left[i] })
	}
	return l
}

// wrongCells answers rows of that version of whose cells one may not be.
func wrongCells(version int) []wrong {
	var l []wrong
	for _, cells := range holders() {
		spoil := func(why string, key int, call func(c *api.Cell)) {
			x := full(version, 40, 0, 1, 2, 3, 4)
			call(&cells(&x)[key])
			l = append(l, wrong{why, x})
		}
		for key := range api.Keys {
			for _, a := range amounts() {
				for _, n := range []int{-1, api.MaxNum + 1, math.MaxInt, math.MinInt} {
					spoil(a.name, key, func(c *api.Cell) { *a.at(c) = n })
				}
			}
			for to := range api.Slots {
				other := (to + 1 + key) % api.Slots
				spoil("all that was given", key, func(c *api.Cell) {
					c.Given = [api.Slots]int{}
					c.Given[to] = api.MaxNum
					c.Given[other]++
				})
				spoil("what was given is below 0", key, func(c *api.Cell) {
					c.Given = [api.Slots]int{}
					c.Given[to], c.Given[other] = 9, -9
				})
			}
			spoil("all that was given wraps round", key, func(c *api.Cell) { c.Given = [api.Slots]int{math.MaxInt, math.MaxInt, 2} })
			spoil("all that was given wraps round", key, func(c *api.Cell) { c.Given = [api.Slots]int{3: math.MinInt, 4: math.MinInt} })
		}
	}
	return l
}

// wrongs answers rows of that version that are not Right, by each of the
// reasons there are but a version below 0, and all by one number alone.
func wrongs(version int) []wrong {
	l := wrongCells(version)
	for i := range api.Slots {
		for _, heir := range []int{-1, -2, -api.MaxNum, math.MinInt} {
			x := full(version, 40, 0, 1, 2, 3, 4)
			x.Heir[i] = heir
			l = append(l, wrong{"an heir below 0", x})
			x = full(version, 40)
			x.Heir[i] = heir
			l = append(l, wrong{"an heir below 0 of nothing", x})
		}
		x := full(version, 40, 0, 1, 2, 3, 4)
		x.Heir[i] = 0
		l = append(l, wrong{"what it didn't come into", x})
		for key := range api.Keys {
			for _, a := range amounts() {
				x := full(version, 40)
				*a.at(&x.Left[i][key]) = 1
				l = append(l, wrong{"one number of what it didn't come into", x})
			}
		}
	}
	return l
}

func TestKeepOfRowsThatAreNotRight(t *testing.T) {
	for _, version := range []int{1, 5, math.MaxInt} {
		for i, w := range wrongs(version) {
			for _, who := range []int{i % api.Slots, (i + 3) % api.Slots} {
				known := several()
				known.sealed = [api.Slots]bool{}
				known.rows[who].Version = version - 1
				if version == 1 {
					known.rows[who] = api.Row{}
				}
				m := having(t, known)
				keeps(t, m, who, w.x, false, w.why, i)
				if see(m) != known {
					t.Fatalf("%s, %d: something was changed", w.why, i)
				}
				keeps(t, m, who, full(version, 40, 1, 3), true, w.why, i, "the Right one")
				seals(t, m, who, full(version, 40, 1, 3), w.why, i)
				keeps(t, m, who, w.x, false, w.why, i, "behind Seal")
			}
		}
	}
}

func TestKeepOfVersionsBelowNothing(t *testing.T) {
	for who := range api.Slots {
		known := only(who, full(4, 600))
		m := having(t, known)
		for _, version := range []int{-1, -2, -4, -5, -1 << 32, math.MinInt, math.MinInt + 1} {
			for _, x := range []api.Row{full(version, 700), {Version: version}} {
				keeps(t, m, who, x, false, who)
				keeps(t, new(mirror.Mirror), who, x, false, who)
			}
			agree(t, m, known, who, version)
		}
	}
}

// What may just be, at all places, is kept.
func TestKeepOfRowsThatJustMayBe(t *testing.T) {
	much := api.Row{Version: math.MaxInt, Heir: [api.Slots]int{math.MaxInt, 1, 2, api.MaxNum + 1, math.MaxInt - 1}}
	for h, cells := range holders() {
		for key := range api.Keys {
			c := api.Cell{In: api.MaxNum, Out: api.MaxNum}
			c.Given[(h+key)%api.Slots] = api.MaxNum
			cells(&much)[key] = c
		}
	}
	parts := full(2, 10)
	parts.Cells[1].Given = [api.Slots]int{api.MaxNum - 10, 1, 2, 3, 4}
	heirs := api.Row{Version: 3, Heir: [api.Slots]int{1, 1, 1, 1, 1}}
	for who := range api.Slots {
		for i, x := range []api.Row{much, parts, heirs, {Version: 1}} {
			var m mirror.Mirror
			keeps(t, &m, who, x, true, who, i)
			agree(t, &m, only(who, x), who, i)
			seals(t, &m, who, x, who, i)
		}
	}
}

// Calls that answer false change nothing, in whatever state.
func TestFalseChangesNothing(t *testing.T) {
	ms, l := states(t)
	for i, m := range ms {
		for who := range api.Slots {
			version := l[i].rows[who].Version
			rows := []api.Row{{}, full(version, 4000), full(version-1, 4000), {Version: -1}, full(math.MinInt, 9)}
			for _, w := range wrongs(version + 1) {
				rows = append(rows, w.x)
			}
			if l[i].sealed[who] {
				rows = append(rows, full(version+1, 4000), full(math.MaxInt, 4000))
			}
			for j, x := range rows {
				if m.Keep(who, x) {
					t.Fatalf("state %d: row %d of %d is kept", i, j, who)
				}
				if m.Row(who) != l[i].rows[who] || m.Sealed(who) != l[i].sealed[who] {
					t.Fatalf("state %d: row %d of %d changed what is kept", i, j, who)
				}
			}
		}
		agree(t, m, l[i], i)
	}
}

// Row, Sealed and Takes change nothing, whatever they are asked, and what they
// answer is the same each time.
func TestAskingChangesNothing(t *testing.T) {
	ms, l := states(t)
	for i, m := range ms {
		for range 3 {
			for _, who := range append([]int{0, 1, 2, 3, 4}, far...) {
				x := m.Row(who)
				version := x.Version
				x.Version, x.Cells, x.Heir[2], x.Left[2] = version+1, counting(4), 5, counting(8)
				m.Sealed(who)
				if got := m.Takes(who, x); got != l[i].takes(who, x) {
					t.Fatalf("state %d: Takes of %d, Version %d: %v", i, who, x.Version, got)
				}
				m.Takes(who, full(version, 3))
				m.Takes(who, api.Row{Version: math.MaxInt})
				if see(m) != l[i] {
					t.Fatalf("state %d: asking of %d changed something", i, who)
				}
			}
		}
		agree(t, m, l[i], i)
	}
}

// A row that was handed in, or answered, is its owner's: what he does with it
// is nothing to the Mirror, and what the Mirror keeps later nothing to him.
func TestRowsAreTheirOwners(t *testing.T) {
	spoil := func(x *api.Row) {
		x.Version, x.Cells, x.Heir, x.Left = 99, counting(4), [api.Slots]int{9, 9, 9, 9, 9}, [api.Slots][api.Keys]api.Cell{}
	}
	for who := range api.Slots {
		var m mirror.Mirror
		x := full(2, 10, 1, 3)
		keeps(t, &m, who, x, true)
		spoil(&x)
		agree(t, &m, only(who, full(2, 10, 1, 3)), who, "Keep")
		x = m.Row(who)
		spoil(&x)
		agree(t, &m, only(who, full(2, 10, 1, 3)), who, "Row")
		first := m.Row(who)
		keeps(t, &m, who, full(3, 80), true)
		if first != full(2, 10, 1, 3) {
			t.Fatalf("%d: what Row answered was changed by Keep", who)
		}
		want := only(who, full(3, 80))
		want.sealed[who] = true
		for range 2 {
			x, ok := m.Seal(who)
			if !ok || x != full(3, 80) {
				t.Fatalf("%d: Seal: %v, %v", who, x, ok)
			}
			spoil(&x)
			agree(t, &m, want, who, "Seal")
		}
	}
}

// What Takes was asked, or not, ahead of a Keep is nothing to it.
func TestKeepByItself(t *testing.T) {
	x, y, bad := full(5, 10, 2), full(6, 700), full(7, 20)
	bad.Cells[1].Out = -1
	for who := range api.Slots {
		other := (who + 1) % api.Slots
		var m mirror.Mirror
		if !m.Keep(who, x) || m.Keep(who, x) || m.Row(who) != x {
			t.Fatalf("%d: a row isn't kept as it should", who)
		}
		if !m.Takes(who, y) || m.Keep(who, bad) || m.Keep(who, x) || m.Row(who) != x {
			t.Fatalf("%d: a row is kept, as another one is taken", who)
		}
		if m.Takes(who, bad) || m.Takes(-1, y) || !m.Keep(who, y) || m.Row(who) != y {
			t.Fatalf("%d: a row isn't kept, as another one isn't taken", who)
		}
		if !m.Takes(other, y) || m.Keep(who, y) || m.Takes(who, y) || !m.Keep(other, y) {
			t.Fatalf("%d: a row is kept, as it is taken of %d", who, other)
		}
		want := only(who, y)
		want.rows[other] = y
		agree(t, &m, want, who)
	}
}

// What one Mirror has is nothing to another one.
func TestMirrorsAreApart(t *testing.T) {
	var a, b mirror.Mirror
	keeps(t, &a, 2, full(2, 10), true)
	keeps(t, &b, 2, full(3, 900, 1), true)
	keeps(t, &b, 4, full(2, 10), true)
	seals(t, &a, 2, full(2, 10))
	seals(t, &a, 0, api.Row{})
	want := only(2, full(2, 10))
	want.sealed = [api.Slots]bool{0: true, 2: true}
	agree(t, &a, want)
	want = only(2, full(3, 900, 1))
	want.rows[4] = full(2, 10)
	agree(t, &b, want)
	agree(t, new(mirror.Mirror), sight{})
}

// A deed is a call on a Mirror, and what comes of it by the words.
type deed struct {
	name string
	do   func(t *testing.T, m *mirror.Mirror, s *sight)
}

// deeds answers those of two machines: rows of three versions, two of one of
// them, one that isn't Right, and a Seal; and those of none.
func deeds() []deed {
	bad := full(3, 50)
	bad.Heir[1] = -1
	var l []deed
	for _, who := range []int{0, 4} {
		for i, x := range []api.Row{full(1, 10), full(2, 20, 3), full(2, 30), full(3, 40), bad} {
			l = append(l, deed{"keep", func(t *testing.T, m *mirror.Mirror, s *sight) {
				took := x != bad && s.takes(who, x)
				if m.Takes(who, x) != took || m.Keep(who, x) != took {
					t.Fatalf("%d: row %d isn't kept as it should", who, i)
				}
				if took {
					s.rows[who] = x
				}
			}})
		}
		l = append(l, deed{"seal", func(t *testing.T, m *mirror.Mirror, s *sight) {
			s.sealed[who] = true
			if x, ok := m.Seal(who); !ok || x != s.rows[who] {
				t.Fatalf("%d: Seal: %v, %v", who, x, ok)
			}
		}})
	}
	return append(l, deed{"none", func(t *testing.T, m *mirror.Mirror, s *sight) {
		if x, ok := m.Seal(api.Slots); ok || x != (api.Row{}) || m.Keep(-1, full(9, 10)) {
			t.Fatal("of no machine something is kept, or sealed")
		}
	}})
}

// All orders of four calls, any of which may come again.
func TestAllOrders(t *testing.T) {
	l := deeds()
	const long = 4
	many := 1
	for range long {
		many *= len(l)
	}
	for n := range many {
		var m mirror.Mirror
		var s sight
		for rest, i := n, 0; i < long; rest, i = rest/len(l), i+1 {
			l[rest%len(l)].do(t, &m, &s)
			if see(&m) != s {
				t.Fatalf("order %d: call %d (%s): not what it should have", n, i, l[rest%len(l)].name)
			}
		}
	}
}

// wild answers a row of numbers at chance, few of which may not be.
func wild(r *rand.Rand) api.Row {
	edges := []int{0, 0, 0, 1, 2, api.MaxNum, api.MaxNum + 1, -1, math.MaxInt, math.MinInt}
	number := func() int {
		if r.Intn(20) > 0 {
			return r.Intn(3)
		}
		return edges[r.Intn(len(edges))]
	}
	cells := func(l *[api.Keys]api.Cell) {
		for key := range l {
			l[key].In, l[key].Out = number(), number()
			l[key].Given[r.Intn(api.Slots)] = number()
		}
	}
	x := api.Row{Version: number() + r.Intn(50)}
	if r.Intn(2) == 0 {
		cells(&x.Cells)
	}
	for i := range api.Slots {
		if r.Intn(3) == 0 {
			x.Heir[i] = number()
		}
		if x.Heir[i] != 0 || r.Intn(40) == 0 {
			cells(&x.Left[i])
		}
	}
	return x
}

// Whatever is handed in: no call panics, and a row is kept if it is Right by
// layer 4, later, and its machine isn't sealed.
func TestCallsAtChance(t *testing.T) {
	r := rand.New(rand.NewSource(14))
	kept, sealed := 0, 0
	for i := range 2000 {
		var m mirror.Mirror
		var want sight
		for j := range 30 {
			who, x := r.Intn(api.Slots), wild(r)
			if r.Intn(5) == 0 {
				who = far[r.Intn(len(far))]
			}
			if r.Intn(12) == 0 {
				y, ok := m.Seal(who)
				if there := who >= 0 && who < api.Slots; ok != there || there && y != want.rows[who] || !there && y != (api.Row{}) {
					t.Fatalf("%d, %d: Seal of %d: %v, %v", i, j, who, y, ok)
				}
				if ok {
					want.sealed[who] = true
					sealed++
				}
			}
			took := row.Right(x) && want.takes(who, x)
			keeps(t, &m, who, x, took, i, j)
			if took {
				want.rows[who] = x
				kept++
			}
			if see(&m) != want {
				t.Fatalf("%d, %d: not what it should have", i, j)
			}
		}
		agree(t, &m, want, i)
	}
	if kept < 2000 || sealed < 2000 {
		t.Fatalf("%d were kept, and %d sealed, alone", kept, sealed)
	}
}

// int's least and greatest, and all beside MaxNum and 0, at all places at once.
func TestNoCallPanics(t *testing.T) {
	r := rand.New(rand.NewSource(41))
	numbers := []int{math.MinInt, math.MinInt + 1, -1, 0, 1, api.MaxNum, api.MaxNum + 1, math.MaxInt - 1, math.MaxInt}
	filled := func(number func() int) api.Row {
		x := api.Row{Version: number()}
		for _, cells := range holders() {
			for key := range api.Keys {
				for _, a := range amounts() {
					*a.at(&cells(&x)[key]) = number()
				}
			}
		}
		for i := range api.Slots {
			x.Heir[i] = number()
		}
		return x
	}
	var rows []api.Row
	for _, n := range numbers {
		rows = append(rows, filled(func() int { return n }))
	}
	for range 40 {
		rows = append(rows, filled(func() int { return numbers[r.Intn(len(numbers))] }))
	}
	ms, l := states(t)
	for i, m := range ms {
		want := l[i]
		for _, x := range rows {
			for _, who := range append([]int{0, 1, 2, 3, 4}, far...) {
				took := row.Right(x) && want.takes(who, x)
				keeps(t, m, who, x, took, i)
				if took {
					want.rows[who] = x
				}
				m.Row(who)
				m.Sealed(who)
			}
		}
		for _, who := range append([]int{0, 1, 2, 3, 4}, far...) {
			m.Seal(who)
		}
		want.sealed = [api.Slots]bool{true, true, true, true, true}
		agree(t, m, want, i)
	}
}
