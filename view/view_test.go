package view_test

import (
	"math"
	"math/bits"
	"math/rand"
	"slices"
	"testing"

	"legatee/api"
	"legatee/view"
)

// far are numbers that are no machines, kinds, or numbers of a view.
var far = []int{
	math.MinInt, math.MinInt + 1, -1 << 40, -1 << 32, -1<<31 - 1, -65, -64, -63, -32, -6, -5, -4, -3, -2, -1,
	5, 6, 7, 8, 31, 32, 33, 62, 63, 64, 65, 127, 128, 255, 256, 257, 1<<31 - 1, 1 << 31, 1 << 32, 1<<32 + 1, 1<<40 + 2, math.MaxInt - 1, math.MaxInt,
}

// numbers are those, and machines.
var numbers = slices.Concat([]int{0, 1, 2, 3, 4}, far)

// A told is a view as the words tell it: who is in, and whose heir is who (-1:
// nobody is).
type told struct {
	epoch int
	in    [5]bool
	heir  [5]int
}

// first answers the view that all begin with.
func first() told {
	return told{1, [5]bool{true, true, true, false, false}, [5]int{-1, -1, -1, -1, -1}}
}

// view answers what is told as a view.
func (w told) view() api.View {
	v := api.View{Epoch: w.epoch}
	weight := 1
	for i := range 5 {
		if w.in[i] {
			v.Members += weight
		}
		weight *= 2
		v.Heirs[i] = w.heir[i] + 1
	}
	return v
}

// size answers how many members there are.
func (w told) size() int {
	n := 0
	for _, in := range w.in {
		if in {
			n++
		}
	}
	return n
}

// is tells whether who is a machine, and a member.
func (w told) is(who int) bool {
	return slices.Contains([]int{0, 1, 2, 3, 4}, who) && w.in[who]
}

// next answers what a change makes, and whether it may be.
func (w told) next(c api.Change) (told, bool) {
	known := slices.Contains([]int{0, 1, 2, 3, 4}, c.Who)
	switch {
	case known && c.Kind == 0 && !w.in[c.Who] && w.heir[c.Who] < 0:
		w.in[c.Who] = true
	case known && c.Kind == 1 && w.in[c.Who] && w.is(c.Heir) && c.Heir != c.Who:
		w.in[c.Who] = false
		for i := range 5 {
			if w.heir[i] == c.Who || i == c.Who {
				w.heir[i] = c.Heir
			}
		}
	default:
		return told{}, false
	}
	w.epoch++
	return w, true
}

// join and leave answer changes.
func join(who int) api.Change        { return api.Change{Kind: api.Join, Who: who} }
func leave(who, heir int) api.Change { return api.Change{Kind: api.Leave, Who: who, Heir: heir} }

// rights answers all views of an Epoch that are Right.
func rights(epoch int) []told {
	var l []told
	for set := 1; set < 32; set++ {
		some := []told{{epoch: epoch}}
		for i := range 5 {
			var more []told
			for _, w := range some {
				w.in[i], w.heir[i] = set>>i&1 == 1, -1
				more = append(more, w)
				for h := range 5 {
					if !w.in[i] && set>>h&1 == 1 {
						w.heir[i] = h
						more = append(more, w)
					}
				}
			}
			some = more
		}
		l = append(l, some...)
	}
	return l
}

// turns has Next answer want.
func turns(t *testing.T, v api.View, c api.Change, want api.View) api.View {
	t.Helper()
	before := v
	got, err := view.Next(v, c)
	if err != api.OK || got != want {
		t.Fatalf("Next %+v by %+v: %+v, %d, not %+v", v, c, got, err, want)
	}
	if v != before {
		t.Fatalf("Next changed %+v to %+v", before, v)
	}
	return got
}

// refuses has Next answer ErrArg, and a view that is all 0.
func refuses(t *testing.T, v api.View, c api.Change) {
	t.Helper()
	before := v
	if got, err := view.Next(v, c); err != api.ErrArg || got != (api.View{}) {
		t.Fatalf("Next %+v by %+v: %+v, %d, not ErrArg", v, c, got, err)
	}
	if v != before {
		t.Fatalf("Next changed %+v to %+v", before, v)
	}
}

// has has Heir answer want.
func has(t *testing.T, v api.View, who, want int) {
	t.Helper()
	if heir, ok := view.Heir(v, who); !ok || heir != want {
		t.Fatalf("Heir of %d by %+v: %d, %v, not %d", who, v, heir, ok, want)
	}
}

// hasNone has Heir answer 0, false.
func hasNone(t *testing.T, v api.View, who int) {
	t.Helper()
	if heir, ok := view.Heir(v, who); ok || heir != 0 {
		t.Fatalf("Heir of %d by %+v: %d, %v, not 0, false", who, v, heir, ok)
	}
}

// says has a call have answered want.
func says(t *testing.T, name string, v api.View, n int, got, want bool) {
	t.Helper()
	if got != want {
		t.Fatalf("%s of %+v, %d: %v, not %v", name, v, n, got, want)
	}
}

// looks has all calls that look at a view answer as is told.
func looks(t *testing.T, w told) {
	t.Helper()
	v := w.view()
	says(t, "Right", v, 0, view.Right(v), true)
	for who := range 5 {
		says(t, "Member", v, who, view.Member(v, who), w.in[who])
		if w.heir[who] < 0 {
			hasNone(t, v, who)
		} else {
			has(t, v, who, w.heir[who])
		}
	}
	for set := range 32 {
		says(t, "Enough", v, set, view.Enough(v, set), 2*bits.OnesCount(uint(set&v.Members)) > w.size())
	}
}

// walk makes one change after the other, and has each answer as is told.
func walk(t *testing.T, w told, l ...api.Change) api.View {
	t.Helper()
	v := w.view()
	for _, c := range l {
		next, ok := w.next(c)
		if !ok {
			refuses(t, v, c)
			continue
		}
		w = next
		v = turns(t, v, c, w.view())
		looks(t, w)
	}
	return v
}

// P11.1: the first view.
func TestFirst(t *testing.T) {
	want := api.View{Epoch: 1, Members: 7}
	if v := view.First(); v != want {
		t.Fatalf("First: %+v", v)
	}
	v := view.First()
	v.Members, v.Heirs[3], v.Epoch = 1, 1, 9
	if v := view.First(); v != want {
		t.Fatalf("First, later: %+v", v)
	}
	looks(t, first())
}

// P11.1: the chapter's example.
func TestTwoLeaves(t *testing.T) {
	v := turns(t, view.First(), leave(2, 0), api.View{Epoch: 2, Members: 0b11, Heirs: [5]int{0, 0, 1, 0, 0}})
	has(t, v, 2, 0)
	for who, want := range []bool{true, true, false, false, false} {
		says(t, "Member", v, who, view.Member(v, who), want)
	}
	says(t, "Right", v, 0, view.Right(v), true)
}

// P11.1: an heir leaves, and its own heir is the heir of all whose heir it was
// (the ninth example of the whole).
func TestHeirLeaves(t *testing.T) {
	v := view.First()
	v = turns(t, v, join(3), api.View{Epoch: 2, Members: 0b1111})
	v = turns(t, v, join(4), api.View{Epoch: 3, Members: 0b11111})
	v = turns(t, v, leave(0, 1), api.View{Epoch: 4, Members: 0b11110, Heirs: [5]int{2, 0, 0, 0, 0}})
	v = turns(t, v, leave(4, 2), api.View{Epoch: 5, Members: 0b01110, Heirs: [5]int{2, 0, 0, 0, 3}})
	// One heir leaves to another one; who left to that one stays its.
	v = turns(t, v, leave(1, 2), api.View{Epoch: 6, Members: 0b01100, Heirs: [5]int{3, 3, 0, 0, 3}})
	// Three at once.
	v = turns(t, v, leave(2, 3), api.View{Epoch: 7, Members: 0b01000, Heirs: [5]int{4, 4, 4, 0, 4}})
	for _, who := range []int{0, 1, 2, 4} {
		has(t, v, who, 3)
		refuses(t, v, join(who))
	}
	hasNone(t, v, 3)
	// The last one stays, whoever were its heir.
	for _, heir := range numbers {
		refuses(t, v, leave(3, heir))
	}
}

// P11.1: of two heirs one leaves: whose heir the other one was, stays so.
func TestOtherHeirsStay(t *testing.T) {
	v := walk(t, first(), join(3), join(4), leave(0, 2), leave(1, 3))
	v = turns(t, v, leave(2, 4), api.View{Epoch: 6, Members: 0b11000, Heirs: [5]int{5, 4, 5, 0, 0}})
	v = turns(t, v, leave(4, 3), api.View{Epoch: 7, Members: 0b01000, Heirs: [5]int{4, 4, 4, 0, 4}})
	says(t, "Right", v, 0, view.Right(v), true)
}

// P11.1: joins and leaves, one behind the other, wrong ones among them.
func TestChanges(t *testing.T) {
	walk(t, first(), join(0), join(1), join(2), join(3), join(3), join(4), join(4), join(5), join(-1))
	walk(t, first(), leave(0, 1), leave(0, 1), join(0), leave(1, 0), leave(1, 2), leave(2, 2), leave(2, 1), leave(2, 3), join(3), leave(2, 3), join(4), join(2))
	walk(t, first(), leave(3, 0), leave(0, 3), leave(3, 3), leave(3, 4), join(3), leave(0, 3), leave(3, 0), leave(3, 1), join(3), join(0))
	walk(t, first(), leave(0, 0), leave(1, 1), leave(2, 2), leave(-1, 0), leave(0, -1), leave(5, 0), leave(0, 5), leave(4, 4))
	walk(t, first(), api.Change{Kind: 2, Who: 3}, api.Change{Kind: -1, Who: 3}, api.Change{Kind: 2, Who: 0, Heir: 1}, api.Change{Kind: 3, Who: 0, Heir: 1})
}

// P11.1: who joins needs no heir, so any number may stand there.
func TestJoinHasNoHeir(t *testing.T) {
	for _, heir := range numbers {
		turns(t, view.First(), api.Change{Kind: api.Join, Who: 4, Heir: heir}, api.View{Epoch: 2, Members: 0b10111})
		refuses(t, view.First(), api.Change{Kind: api.Join, Who: 2, Heir: heir})
	}
}

// P11.1: every change of every view that is Right, and what comes of it is
// Right again.
func TestAllChanges(t *testing.T) {
	all := rights(1)
	// Of so many members, each that isn't one has nobody, or one of them.
	if len(all) != 5*16+10*27+10*16+5*5+1 {
		t.Fatalf("%d views", len(all))
	}
	made := 0
	for _, w := range all {
		v := w.view()
		looks(t, w)
		for kind := -1; kind <= 3; kind++ {
			for who := -2; who <= 7; who++ {
				for heir := -2; heir <= 7; heir++ {
					c := api.Change{Kind: kind, Who: who, Heir: heir}
					next, ok := w.next(c)
					if !ok {
						refuses(t, v, c)
						continue
					}
					made++
					got := turns(t, v, c, next.view())
					says(t, "Right", got, 0, view.Right(got), true)
					if got.Epoch != 2 {
						t.Fatalf("Epoch %d", got.Epoch)
					}
				}
			}
		}
	}
	if made == 0 {
		t.Fatal("no change was made")
	}
}

// P11.1: the Epoch is one more than that which was, and nothing else hangs on it.
func TestEpochs(t *testing.T) {
	for _, epoch := range []int{1, 2, 3, 7, 30, 31, 32, 255, 256, 1<<31 - 1, 1 << 31, 1<<32 - 1, 1 << 32, 1 << 40, 1<<40 + 1, 1 << 62, math.MaxInt - 1} {
		for _, w := range rights(epoch)[:200] {
			looks(t, w)
		}
		w := first()
		w.epoch = epoch
		walk(t, w, join(0))
		turns(t, w.view(), join(3), api.View{Epoch: epoch + 1, Members: 0b1111})
		turns(t, w.view(), leave(1, 0), api.View{Epoch: epoch + 1, Members: 0b101, Heirs: [5]int{0, 1, 0, 0, 0}})
	}
}

// P11.1: changes at random, from the first view on.
func TestChangesAtRandom(t *testing.T) {
	rnd := rand.New(rand.NewSource(11))
	for range 400 {
		var l []api.Change
		for range 40 {
			l = append(l, api.Change{Kind: rnd.Intn(3), Who: rnd.Intn(7) - 1, Heir: rnd.Intn(7) - 1})
		}
		walk(t, first(), l...)
	}
}

// P11.1: numbers that are no machines, and kinds that are none, at each place.
func TestWrongChanges(t *testing.T) {
	for _, v := range []api.View{view.First(), {Epoch: 1, Members: 31}, {Epoch: 2, Members: 16, Heirs: [5]int{5, 5, 0, 0, 0}}} {
		for _, n := range far {
			refuses(t, v, join(n))
			for _, other := range numbers {
				refuses(t, v, leave(n, other))
				refuses(t, v, leave(other, n))
				refuses(t, v, api.Change{Kind: api.Join, Who: n, Heir: other})
				refuses(t, v, api.Change{Kind: n, Who: other, Heir: 1})
				refuses(t, v, api.Change{Kind: n, Who: 1, Heir: other})
			}
		}
		for _, kind := range []int{2, 3, 4} {
			for who := range 5 {
				for heir := range 5 {
					refuses(t, v, api.Change{Kind: kind, Who: who, Heir: heir})
				}
			}
		}
	}
}

// P11.1: each set of members, others' bits beside them, and each number.
func TestMember(t *testing.T) {
	for set := range 32 {
		for _, beside := range []int{0, 32, 64, 1 << 31, 1 << 32, 1 << 62, math.MinInt, -32} {
			v := api.View{Members: set | beside}
			for who := range 5 {
				says(t, "Member", v, who, view.Member(v, who), set>>who&1 == 1)
			}
			for _, n := range far {
				says(t, "Member", v, n, view.Member(v, n), false)
			}
			// Nothing else of the view has a say in it.
			v.Epoch, v.Heirs = -7, [5]int{1, 2, 3, 4, 5}
			for who := range 5 {
				says(t, "Member", v, who, view.Member(v, who), set>>who&1 == 1)
			}
		}
	}
}

// rightly tells whether a view is Right, as the words say.
func rightly(v api.View) bool {
	if v.Epoch <= 0 || v.Members <= 0 || v.Members > 31 {
		return false
	}
	in := func(who int) bool { return slices.Contains([]int{0, 1, 2, 3, 4}, who) && v.Members&(1<<who) != 0 }
	for i := range 5 {
		switch h := v.Heirs[i]; {
		case h == 0:
		case h < 0 || h > 5:
			return false
		case in(i) || !in(h-1):
			return false
		}
	}
	return true
}

// P11.1: Right, at all heirs from below 0 to past Slots.
func TestRight(t *testing.T) {
	heirs := []int{-1, 0, 1, 2, 3, 4, 5, 6}
	found := 0
	for set := -1; set <= 33; set++ {
		v := api.View{Epoch: 1, Members: set}
		for n := range 8 * 8 * 8 * 8 * 8 {
			for i := range 5 {
				v.Heirs[i] = heirs[n%8]
				n /= 8
			}
			want := rightly(v)
			if want {
				found++
			}
			if view.Right(v) != want {
				t.Fatalf("Right %+v: %v", v, !want)
			}
		}
	}
	if found != len(rights(1)) {
		t.Fatalf("%d views are Right, not %d", found, len(rights(1)))
	}
}

// P11.1: Right, of Epochs, Members and Heirs that can't be.
func TestNotRight(t *testing.T) {
	good := api.View{Epoch: 3, Members: 0b01101, Heirs: [5]int{0, 1, 0, 0, 3}}
	says(t, "Right", good, 0, view.Right(good), true)
	for _, n := range []int{0, -1, -2, -3, -1 << 31, -1 << 32, math.MinInt, math.MinInt + 1} {
		v := good
		v.Epoch = n
		says(t, "Right", v, n, view.Right(v), false)
	}
	for _, n := range []int{1, 2, 1 << 31, 1 << 32, 1 << 40, 1<<40 + 1, 1 << 62, math.MaxInt} {
		v := good
		v.Epoch = n
		says(t, "Right", v, n, view.Right(v), true)
	}
	for _, n := range []int{0, 32, 33, 63, 64, 32 | good.Members, 1<<31 | good.Members, 1<<32 | good.Members, 1<<62 | good.Members, math.MinInt | good.Members, -1, -32, -19, math.MinInt, math.MaxInt} {
		v := good
		v.Members = n
		says(t, "Right", v, n, view.Right(v), false)
		v.Heirs = [5]int{}
		says(t, "Right", v, n, view.Right(v), false)
	}
	for _, n := range []int{1, 2, 4, 8, 16, 31, 30, 15} {
		v := api.View{Epoch: 1, Members: n}
		says(t, "Right", v, n, view.Right(v), true)
	}
	for i := range 5 {
		for _, n := range numbers {
			v := good
			v.Heirs[i] = n
			says(t, "Right", v, n, view.Right(v), rightly(v))
		}
	}
	// Each that isn't a member, one that isn't as its heir: and it were its own.
	v := api.View{Epoch: 1, Members: 0b00111, Heirs: [5]int{0, 0, 0, 4, 0}}
	says(t, "Right", v, 0, view.Right(v), false)
	v.Heirs = [5]int{0, 0, 0, 5, 0}
	says(t, "Right", v, 0, view.Right(v), false)
	v.Heirs = [5]int{0, 0, 1, 0, 0}
	says(t, "Right", v, 0, view.Right(v), false)
	says(t, "Right", api.View{}, 0, view.Right(api.View{}), false)
}

// P11.1: Heir, at each place, and of numbers that are no machines.
func TestHeir(t *testing.T) {
	for who := range 5 {
		for heir := range 5 {
			v := api.View{Epoch: 2, Members: 1 << heir}
			v.Heirs[who] = heir + 1
			has(t, v, who, heir)
			for other := range 5 {
				if other != who {
					hasNone(t, v, other)
				}
			}
			for _, n := range far {
				hasNone(t, v, n)
			}
		}
	}
	v := api.View{Epoch: 5, Members: 0b00001, Heirs: [5]int{0, 1, 1, 1, 1}}
	for who := 1; who < 5; who++ {
		has(t, v, who, 0)
	}
	for _, n := range numbers {
		hasNone(t, api.View{}, n)
		hasNone(t, view.First(), n)
	}
}

// P11.1: the next two are witnesses, modulo Slots.
func TestWitnesses(t *testing.T) {
	for who, want := range [][]int{{1, 2}, {2, 3}, {3, 4}, {4, 0}, {0, 1}} {
		l := view.Witnesses(who)
		if !slices.Equal(l, want) {
			t.Fatalf("Witnesses of %d: %v, not %v", who, l, want)
		}
		again := view.Witnesses(who)
		l[0], l[1] = 77, 78
		if !slices.Equal(again, want) || !slices.Equal(view.Witnesses(who), want) {
			t.Fatalf("Witnesses of %d aren't new memory", who)
		}
		_ = append(again[:1], 99)
		if !slices.Equal(view.Witnesses(who), want) {
			t.Fatalf("Witnesses of %d aren't new memory", who)
		}
	}
}

// P11.1: Enough, at each set of members and each set of machines, bits of
// others among them.
func TestEnough(t *testing.T) {
	for set := range 32 {
		for _, beside := range []int{0, 32, 64, 0b111 << 5, 1 << 31, 1 << 32, 0b11111 << 40, 1 << 62, math.MinInt, -32} {
			for part := range 32 {
				both := bits.OnesCount(uint(set & part))
				want := 2*both > bits.OnesCount(uint(set))
				v := api.View{Epoch: 1, Members: set}
				says(t, "Enough", v, part|beside, view.Enough(v, part|beside), want)
				// Of views that aren't Right machines alone are members, too.
				v = api.View{Epoch: -1, Members: set | beside, Heirs: [5]int{1, 2, 3, 4, 5}}
				says(t, "Enough", v, part, view.Enough(v, part), want)
				says(t, "Enough", v, part|beside, view.Enough(v, part|beside), want)
			}
		}
	}
	v := view.First()
	for bits, want := range []bool{false, false, false, true, false, true, true, true, false, false, false, true} {
		says(t, "Enough", v, bits, view.Enough(v, bits), want)
	}
	// Half isn't enough; of one it is that one.
	v = api.View{Epoch: 2, Members: 0b10010}
	says(t, "Enough", v, 0b10000, view.Enough(v, 0b10000), false)
	says(t, "Enough", v, 0b10010, view.Enough(v, 0b10010), true)
	says(t, "Enough", v, 0b01101, view.Enough(v, 0b01101), false)
	says(t, "Enough", v, -1, view.Enough(v, -1), true)
	v = api.View{Epoch: 2, Members: 0b00100}
	says(t, "Enough", v, 0b00100, view.Enough(v, 0b00100), true)
	says(t, "Enough", v, 0b11011, view.Enough(v, 0b11011), false)
	says(t, "Enough", api.View{}, -1, view.Enough(api.View{}, -1), false)
}

// P0: every call ends and none panics, whatever stands in the view and beside it.
func TestAnythingEnds(t *testing.T) {
	rnd := rand.New(rand.NewSource(12))
	any := func() int { return numbers[rnd.Intn(len(numbers))] }
	for _, n := range numbers {
		view.Witnesses(n)
	}
	for range 100000 {
		v := api.View{Epoch: any(), Members: any(), Heirs: [5]int{any(), any(), any(), any(), any()}}
		if rnd.Intn(2) == 0 {
			v.Members = rnd.Intn(32)
		}
		before, who := v, any()
		c := api.Change{Kind: rnd.Intn(2), Who: any(), Heir: any()}
		says(t, "Right", v, 0, view.Right(v), rightly(v))
		view.Member(v, who)
		view.Enough(v, who)
		if heir, ok := view.Heir(v, who); !ok && heir != 0 {
			t.Fatalf("Heir of %d by %+v: %d, false", who, v, heir)
		}
		got, err := view.Next(v, c)
		if err != api.OK && (err != api.ErrArg || got != (api.View{})) {
			t.Fatalf("Next %+v by %+v: %+v, %d", v, c, got, err)
		}
		if err == api.OK && rightly(v) && v.Epoch < math.MaxInt && !view.Right(got) {
			t.Fatalf("Next %+v by %+v: %+v isn't Right", v, c, got)
		}
		if v != before {
			t.Fatalf("%+v was changed to %+v", before, v)
		}
	}
}
