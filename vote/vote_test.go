package vote_test

import (
	"math"
	"math/rand"
	"testing"

	"legatee/api"
	"legatee/view"
	"legatee/vote"
)

// far are numbers that are no machines; numbers are those, and machines.
var (
	far = []int{
		math.MinInt, math.MinInt + 1, -1<<32 + 1, -1 << 32, -1<<31 - 1, -65, -64, -63, -33, -32, -31, -5, -4, -3, -2, -1,
		5, 6, 7, 8, 31, 32, 33, 62, 63, 64, 65, 66, 127, 128, 129, 256, 257, 1<<31 - 1, 1 << 31, 1 << 32, 1<<32 + 1, math.MaxInt - 1, math.MaxInt,
	}
	numbers = append([]int{0, 1, 2, 3, 4}, far...)
)

// b answers a ballot, and join and leave a change.
func b(round, who int) api.Ballot { return api.Ballot{Round: round, Who: who} }
func join(who int) api.Change     { return api.Change{Kind: api.Join, Who: who} }
func leave(who, heir int) api.Change {
	return api.Change{Kind: api.Leave, Who: who, Heir: heir}
}

// of answers a view of these members.
func of(members ...int) api.View {
	v := api.View{Epoch: 1}
	for _, who := range members {
		v.Members |= 1 << who
	}
	return v
}

// none is what who took nothing tells that it had, and no what its change is.
var (
	none = api.Ballot{}
	no   = api.Change{}
)

// is has what v tells of itself be that, however often it is asked.
func is(t *testing.T, v *vote.Vote, b api.Ballot, c api.Change, putting bool) {
	t.Helper()
	for range 2 {
		if v.Ballot() != b || v.Change() != c || v.Putting() != putting {
			t.Fatalf("it is a vote by %+v of %+v, putting %v; not by %+v of %+v, %v", v.Ballot(), v.Change(), v.Putting(), b, c, putting)
		}
	}
}

// vows has who vow v's own ballot, as one that had that.
func vows(t *testing.T, v *vote.Vote, who int, had api.Ballot, c api.Change, want bool) {
	t.Helper()
	if got := v.Vowed(who, v.Ballot(), had, c); got != want {
		t.Fatalf("Vowed by %d, who had %+v by %+v: %v", who, c, had, got)
	}
	if v.Putting() && !want {
		t.Fatalf("Vowed by %d: false, but it is putting", who)
	}
}

// vowing has each of them vow, of whom the last one makes it putting.
func vowing(t *testing.T, v *vote.Vote, who ...int) {
	t.Helper()
	for i, w := range who {
		vows(t, v, w, none, no, i == len(who)-1)
	}
}

// takes has who take it by v's own ballot.
func takes(t *testing.T, v *vote.Vote, who int, want bool) {
	t.Helper()
	if got := v.Taken(who, v.Ballot()); got != want {
		t.Fatalf("Taken by %d: %v", who, got)
	}
}

// refuses has that vow count for nothing.
func refuses(t *testing.T, v *vote.Vote, who int, x, had api.Ballot, c api.Change) {
	t.Helper()
	own, change, putting := v.Ballot(), v.Change(), v.Putting()
	if v.Vowed(who, x, had, c) {
		t.Fatalf("Vowed by %d of %+v, had %+v by %+v: true", who, x, c, had)
	}
	is(t, v, own, change, putting)
}

// passes has that taking count for nothing.
func passes(t *testing.T, v *vote.Vote, who int, x api.Ballot) {
	t.Helper()
	own, change, putting := v.Ballot(), v.Change(), v.Putting()
	if v.Taken(who, x) {
		t.Fatalf("Taken by %d of %+v: true", who, x)
	}
	is(t, v, own, change, putting)
}

// P13.1: the chapter's example: of three members two are enough, whichever
// they are, to vow and to take.
func TestOfThreeTwoAreEnough(t *testing.T) {
	for first := range 3 {
		for second := range 3 {
			for third := range 3 {
				for fourth := range 3 {
					if first == second || third == fourth {
						continue
					}
					v := vote.New(view.First(), b(1, 2), join(3))
					is(t, v, b(1, 2), join(3), false)
					vows(t, v, first, none, no, false)
					is(t, v, b(1, 2), join(3), false)
					vows(t, v, second, none, no, true)
					is(t, v, b(1, 2), join(3), true)
					takes(t, v, third, false)
					takes(t, v, fourth, true)
					is(t, v, b(1, 2), join(3), true)
				}
			}
		}
	}
}

// P13.1: a new one has what it was made with, whatever that is, and isn't
// putting.
func TestNew(t *testing.T) {
	for _, x := range numbers {
		for _, y := range numbers {
			c := api.Change{Kind: y, Who: x, Heir: x ^ y}
			is(t, vote.New(view.First(), b(x, y), c), b(x, y), c, false)
			is(t, vote.New(api.View{Epoch: y, Members: x}, b(y, x), c), b(y, x), c, false)
		}
	}
	is(t, vote.New(api.View{}, none, no), none, no, false)
}

// P13.1: in each view of one to five members it is putting, and its change is
// chosen, by that member which is the first to make them more than half.
func TestAllSetsOfMembers(t *testing.T) {
	enough := []int{0, 1, 2, 2, 3, 3}
	for members := 1; members < 32; members++ {
		var l []int
		for who := range 5 {
			if members>>who%2 == 1 {
				l = append(l, who)
			}
		}
		need := enough[len(l)]
		for turn := range l {
			v := vote.New(api.View{Epoch: 3, Members: members}, b(2, 0), leave(1, 0))
			for i := range need {
				vows(t, v, l[(turn+i)%len(l)], none, no, i == need-1)
			}
			is(t, v, b(2, 0), leave(1, 0), true)
			for i := range l {
				takes(t, v, l[(turn+2*len(l)-i)%len(l)], i >= need-1) // the other way round
			}
			is(t, v, b(2, 0), leave(1, 0), true)
		}
	}
}

// P13.1: Change is that of the latest had that was told so far: Rounds and
// Whos that rise, fall and stay.
func TestHads(t *testing.T) {
	x, y, z := join(3), join(4), leave(2, 0)
	type told struct {
		had    api.Ballot
		c      api.Change
		change api.Change // what it is a vote of behind that
	}
	own := leave(0, 1)
	for i, l := range [][]told{
		{{none, x, own}, {none, y, own}, {none, z, own}},
		{{b(1, 0), x, x}, {none, y, x}, {none, z, x}},
		{{none, x, own}, {b(1, 0), y, y}, {none, z, y}},
		{{none, x, own}, {none, y, own}, {b(1, 0), z, z}},
		{{b(1, 0), x, x}, {b(2, 0), y, y}, {b(3, 0), z, z}}, // rise
		{{b(3, 0), x, x}, {b(2, 0), y, x}, {b(1, 0), z, x}}, // fall
		{{b(2, 1), x, x}, {b(2, 1), y, x}, {b(2, 1), z, x}}, // stay: not above
		{{b(1, 0), x, x}, {b(1, 1), y, y}, {b(1, 2), z, z}},
		{{b(1, 2), x, x}, {b(1, 1), y, x}, {b(1, 0), z, x}},
		{{b(1, 4), x, x}, {b(2, 0), y, y}, {b(1, 4), z, y}}, // the Round is ahead of Who
		{{b(2, 0), x, x}, {b(1, 4), y, x}, {b(2, 1), z, z}},
		{{b(3, 1), x, x}, {b(1, 1), y, x}, {b(2, 1), z, x}}, // above the last one, not above all
		{{b(1, 3), x, x}, {b(1, 1), y, x}, {b(1, 2), z, x}},
		{{b(2, 2), x, x}, {b(4, 0), y, y}, {b(3, 3), z, y}},
		{{b(1, 0), own, own}, {b(2, 0), x, x}, {b(3, 0), own, own}},
		{{b(1, 0), no, no}, {b(2, 0), x, x}, {b(3, 0), no, no}}, // any change may be told
		{{b(1, -1), x, x}, {b(1, 0), y, y}, {b(1, -2), z, y}},
		{{b(1, math.MinInt), x, x}, {b(1, math.MaxInt), y, y}, {b(1, 0), z, y}},
		{{b(0, 0), x, own}, {b(0, 1), y, own}, {b(0, 4), z, own}}, // Round 0 and below: none
		{{b(-1, 0), x, own}, {b(-1, 4), y, own}, {b(0, 9), z, own}},
		{{b(-1, 4), x, own}, {b(1, 0), y, y}, {b(-2, 4), z, y}},
		{{b(0, math.MaxInt), x, own}, {b(1, math.MinInt), y, y}, {b(0, math.MaxInt), z, y}},
		{{b(math.MinInt, math.MinInt), x, own}, {b(math.MinInt, math.MaxInt), y, own}, {b(1, 0), z, z}},
		{{b(math.MaxInt, math.MinInt), x, x}, {b(math.MaxInt, math.MaxInt), y, y}, {b(math.MaxInt, 0), z, y}},
		{{b(math.MaxInt, math.MaxInt), x, x}, {b(math.MinInt, math.MinInt), y, x}, {b(1, 1), z, x}},
		{{b(1<<32, 0), x, x}, {b(1, 0), y, x}, {b(1<<32+1, 0), z, z}},
		{{b(7, 2), x, x}, {b(7, 1), y, x}, {b(7, 3), z, z}}, // about its own ballot: just that, below, above
		{{b(7, 3), x, x}, {b(7, 2), y, x}, {b(8, 0), z, z}},
		{{b(8, 2), x, x}, {b(7, 2), y, x}, {b(6, 9), z, x}},
	} {
		v := vote.New(of(0, 1, 2, 3, 4), b(7, 2), own)
		for who, a := range l {
			vows(t, v, who, a.had, a.c, who == 2)
			if v.Change() != a.change {
				t.Fatalf("%d: behind %+v its change is %+v, not %+v", i, l[:who+1], v.Change(), a.change)
			}
		}
		is(t, v, b(7, 2), l[2].change, true)
	}
}

// P13.1: any two hads, one behind the other: the later of the two stays.
func TestAnyTwoHads(t *testing.T) {
	few := []int{math.MinInt, -1 << 32, -1, 0, 1, 2, 3, 1 << 32, math.MaxInt - 1, math.MaxInt}
	var l []api.Ballot // all rise
	for _, round := range few {
		for _, who := range few {
			l = append(l, b(round, who))
		}
	}
	own, x, y := leave(1, 2), join(3), join(4)
	for i, first := range l {
		for j, second := range l {
			want := own
			if first.Round > 0 {
				want = x
			}
			if second.Round > 0 && (j > i || want == own) {
				want = y
			}
			v := vote.New(view.First(), b(2, 1), own)
			vows(t, v, 2, first, x, false)
			vows(t, v, 0, second, y, true)
			if v.Change() != want {
				t.Fatalf("behind %+v, %+v its change is %+v, not %+v", first, second, v.Change(), want)
			}
		}
	}
}

// P13.1: any change may be told: whether it may be made isn't asked here.
func TestAnyChangeTold(t *testing.T) {
	for _, kind := range numbers {
		for _, who := range numbers {
			c := api.Change{Kind: kind, Who: who, Heir: kind ^ who}
			v := vote.New(of(0, 1, 2, 3, 4), b(9, 0), join(3))
			vows(t, v, 0, b(1, 0), c, false)
			is(t, v, b(9, 0), c, false)
			vows(t, v, 1, none, no, false)
			vows(t, v, 2, none, join(4), true)
			is(t, v, b(9, 0), c, true)
			takes(t, v, 0, false)
			takes(t, v, 1, false)
			takes(t, v, 2, true)
			is(t, v, b(9, 0), c, true)
		}
	}
}

// P13.1: the change that who vowed tells may be the own one, and stays its
// change against an earlier one.
func TestOwnChangeToldCounts(t *testing.T) {
	v := vote.New(of(0, 1, 2, 3, 4), b(9, 0), join(3))
	vows(t, v, 0, b(5, 1), join(3), false)
	vows(t, v, 1, b(4, 1), join(4), false)
	is(t, v, b(9, 0), join(3), false)
	vows(t, v, 2, b(5, 2), join(4), true)
	is(t, v, b(9, 0), join(4), true)
}

// P13.1: a vow that is told twice by the same member is one vow.
func TestTwiceIsOneVow(t *testing.T) {
	v := vote.New(of(0, 1, 2, 3, 4), b(1, 0), join(3))
	for _, who := range []int{4, 4, 1, 4, 1, 1, 4} {
		vows(t, v, who, none, no, false)
		vows(t, v, who, b(1, 0), join(2), false)
	}
	is(t, v, b(1, 0), join(2), false)
	vows(t, v, 0, none, no, true)
	one := vote.New(of(2), b(1, 0), join(3))
	vows(t, one, 2, none, no, true)
	refuses(t, one, 2, b(1, 0), none, no)
	two := vote.New(of(2, 3), b(1, 0), join(1))
	vows(t, two, 2, none, no, false)
	vows(t, two, 2, none, no, false)
	vows(t, two, 3, none, no, true)
}

// P13.1: what one member told first, and what it tells later, are told both.
func TestTwiceTellsBoth(t *testing.T) {
	v := vote.New(of(0, 1, 2, 3, 4), b(9, 0), join(0))
	vows(t, v, 3, b(4, 0), join(1), false)
	vows(t, v, 3, b(6, 0), join(2), false) // above
	is(t, v, b(9, 0), join(2), false)
	vows(t, v, 3, b(5, 0), join(3), false) // not above all
	vows(t, v, 3, none, no, false)
	vows(t, v, 2, b(5, 9), join(4), false)
	is(t, v, b(9, 0), join(2), false)
	vows(t, v, 1, b(6, 1), join(1), true)
	is(t, v, b(9, 0), join(1), true)
}

// P13.1: a taking that is told twice by the same member is one; once Enough
// took it each taking of a member tells that.
func TestTwiceIsOneTaking(t *testing.T) {
	v := vote.New(of(0, 1, 2, 3, 4), b(1, 0), join(3))
	vowing(t, v, 0, 1, 2)
	for _, who := range []int{4, 4, 3, 4, 3} {
		takes(t, v, who, false)
	}
	takes(t, v, 0, true)
	for _, who := range []int{0, 4, 3, 2, 1, 1} {
		takes(t, v, who, true)
	}
	passes(t, v, 5, b(1, 0))
	passes(t, v, 0, b(2, 0))
}

// P13.1: who vowed needn't be who takes.
func TestOthersTake(t *testing.T) {
	v := vote.New(of(0, 1, 2, 3), b(1, 0), join(4))
	vowing(t, v, 0, 1, 2)
	takes(t, v, 3, false)
	takes(t, v, 2, false)
	takes(t, v, 1, true)
}

// P13.1: a vow, or a taking, of one that is no member counts for nothing,
// whoever that is; nor is what it had told.
func TestNoMembers(t *testing.T) {
	for members := range 32 {
		outside := far
		for who := range 5 {
			if members>>who%2 == 0 {
				outside = append([]int{who}, outside...)
			}
		}
		v := vote.New(api.View{Epoch: 1, Members: members}, b(3, 1), join(4))
		for _, who := range outside {
			refuses(t, v, who, b(3, 1), none, no)
			refuses(t, v, who, b(3, 1), b(2, 0), join(3))
			passes(t, v, who, b(3, 1))
		}
		need := 0
		for who := range 5 {
			if members>>who%2 == 1 && !v.Putting() {
				v.Vowed(who, b(3, 1), b(1, 0), join(2)) // below what those outside told
				need++
			}
		}
		if members == 0 {
			is(t, v, b(3, 1), join(4), false)
			continue
		}
		is(t, v, b(3, 1), join(2), true)
		for _, who := range outside {
			refuses(t, v, who, b(3, 1), b(2, 0), join(3))
			passes(t, v, who, b(3, 1))
		}
		for who := range 5 {
			if members>>who%2 == 1 && need > 0 {
				need--
				takes(t, v, who, need == 0)
			}
		}
	}
}

// P13.1: what is told of another's ballot counts for nothing: of another
// Round, of another Who, of both the other way round.
func TestOthersBallots(t *testing.T) {
	for _, round := range numbers {
		for _, who := range numbers {
			own := b(round, who)
			v := vote.New(view.First(), own, join(3))
			others := []api.Ballot{
				b(round+1, who), b(round-1, who), b(round, who+1), b(round, who-1), b(round+1, who-1), b(round-1, who+1),
				b(-round-1, who), b(round, -who-1), b(round^1<<32, who), b(round, who^1<<32), b(round^math.MinInt, who), b(round, who^math.MinInt),
			}
			if round != who {
				others = append(others, b(who, round), b(who, who), b(round, round))
			}
			for _, x := range others {
				for w := range 3 {
					refuses(t, v, w, x, none, no)
					refuses(t, v, w, x, b(8, 0), join(4))
				}
			}
			vows(t, v, 0, b(7, 0), join(2), false) // below what the others told
			vows(t, v, 1, none, no, true)
			is(t, v, own, join(2), true)
			for _, x := range others {
				for w := range 3 {
					passes(t, v, w, x)
				}
			}
			takes(t, v, 0, false)
			takes(t, v, 1, true)
		}
	}
}

// P13.1: a vow behind that which made it putting counts for nothing: its
// change stays.
func TestVowsBehindPutting(t *testing.T) {
	v := vote.New(of(0, 1, 2, 3, 4), b(9, 0), join(3))
	vows(t, v, 0, none, no, false)
	vows(t, v, 1, b(2, 2), join(4), false)
	vows(t, v, 2, none, no, true)
	for who := range 5 {
		refuses(t, v, who, b(9, 0), none, no)
		refuses(t, v, who, b(9, 0), b(3, 0), join(1))
		refuses(t, v, who, b(9, 0), b(9, 0), join(1))
		refuses(t, v, who, b(9, 0), b(math.MaxInt, math.MaxInt), join(1))
	}
	is(t, v, b(9, 0), join(4), true)
	// Nor does who vows then take it.
	takes(t, v, 3, false)
	takes(t, v, 4, false)
	refuses(t, v, 0, b(9, 0), b(3, 0), join(1))
	takes(t, v, 4, false)
	takes(t, v, 0, true)
	refuses(t, v, 1, b(9, 0), b(3, 0), join(1))
	is(t, v, b(9, 0), join(4), true)
}

// P13.1: a taking ahead of that counts for nothing, then and later.
func TestTakenAheadOfPutting(t *testing.T) {
	v := vote.New(view.First(), b(1, 0), join(3))
	for range 2 {
		for who := range 3 {
			passes(t, v, who, b(1, 0))
		}
	}
	vows(t, v, 0, none, no, false)
	for who := range 3 {
		passes(t, v, who, b(1, 0))
	}
	vows(t, v, 1, none, no, true)
	takes(t, v, 2, false)
	takes(t, v, 2, false)
	takes(t, v, 1, true)
	// Nor does it count as a vow.
	v = vote.New(view.First(), b(1, 0), join(3))
	passes(t, v, 0, b(1, 0))
	vows(t, v, 1, none, no, false)
}

// P13.1: a view's Epoch and Heirs, and bits that are no machine's, have no say
// in it.
func TestMembersAlone(t *testing.T) {
	for _, epoch := range numbers {
		for _, high := range []int{0, 1 << 5, 0b11100000, 1 << 32, math.MinInt, -32} {
			v := vote.New(api.View{Epoch: epoch, Members: high | 0b10110, Heirs: [api.Slots]int{epoch, -1, 2, 77, 5}}, b(1, 0), join(0))
			refuses(t, v, 0, b(1, 0), none, no)
			refuses(t, v, 3, b(1, 0), none, no)
			refuses(t, v, 5, b(1, 0), none, no)
			refuses(t, v, 6, b(1, 0), none, no)
			refuses(t, v, 63, b(1, 0), none, no)
			vowing(t, v, 1, 4)
			passes(t, v, 5, b(1, 0))
			takes(t, v, 2, false)
			takes(t, v, 4, true)
		}
	}
	nobody := vote.New(api.View{Epoch: 1, Members: -32}, b(1, 0), join(0)) // no machine is in it
	for _, who := range numbers {
		refuses(t, nobody, who, b(1, 0), b(1, 0), join(1))
		passes(t, nobody, who, b(1, 0))
	}
	all := vote.New(api.View{Epoch: 1, Members: -1}, b(1, 0), join(0))
	vowing(t, all, 0, 2, 4)
	takes(t, all, 1, false)
	takes(t, all, 3, false)
	takes(t, all, 4, true)
}

// P13.1: a view that is changed behind New by who handed it in, is as it was
// to the vote.
func TestViewStaysAsItWas(t *testing.T) {
	in := of(0, 1, 2)
	v := vote.New(in, b(1, 0), join(3))
	in.Members, in.Epoch, in.Heirs = 0b11000, 7, [api.Slots]int{4, 4, 4, 0, 0}
	refuses(t, v, 3, b(1, 0), none, no)
	refuses(t, v, 4, b(1, 0), none, no)
	vows(t, v, 0, none, no, false)
	in.Members = 0b00001
	vows(t, v, 2, none, no, true)
	in.Members = 0b00111
	takes(t, v, 0, false)
	in.Members = 0b00010
	takes(t, v, 2, true)
	if in.Members != 2 || in.Epoch != 7 {
		t.Fatalf("the view was changed to %+v", in)
	}
}

// P13.1: votes know nothing of one another, though they are made of the same.
func TestVotesApart(t *testing.T) {
	one, other := vote.New(view.First(), b(1, 0), join(3)), vote.New(view.First(), b(1, 0), join(3))
	vows(t, one, 0, b(1, 1), join(4), false)
	is(t, other, b(1, 0), join(3), false)
	vows(t, other, 1, none, no, false)
	vows(t, one, 2, none, no, true)
	is(t, one, b(1, 0), join(4), true)
	is(t, other, b(1, 0), join(3), false)
	vows(t, other, 0, none, no, true)
	takes(t, one, 0, false)
	takes(t, other, 1, false)
	takes(t, one, 2, true)
	takes(t, other, 1, false)
	is(t, other, b(1, 0), join(3), true)
}

// A written is a vote by the words, one by one.
type written struct {
	member  [5]bool
	ballot  api.Ballot
	change  api.Change
	putting bool
	vowed   map[int]int // how often
	took    map[int]int
	hads    []api.Ballot
}

// enough tells whether those are more than half of the members.
func (w *written) enough(who map[int]int) bool {
	others := 0
	for i, in := range w.member {
		if in && who[i] == 0 {
			others++
		}
	}
	return len(who) > others
}

// its tells whether who is a member, and x its own ballot.
func (w *written) its(who int, x api.Ballot) bool {
	return who >= 0 && who < 5 && w.member[who] && x.Round == w.ballot.Round && x.Who == w.ballot.Who
}

func (w *written) vow(who int, x, had api.Ballot, c api.Change) bool {
	if w.putting || !w.its(who, x) {
		return false
	}
	w.vowed[who]++
	above := had.Round > 0
	for _, h := range w.hads {
		if had.Round < h.Round || had.Round == h.Round && had.Who <= h.Who {
			above = false
		}
	}
	if above {
		w.change = c
	}
	w.hads = append(w.hads, had)
	w.putting = w.enough(w.vowed)
	return w.putting
}

func (w *written) take(who int, x api.Ballot) bool {
	if !w.putting || !w.its(who, x) {
		return false
	}
	w.took[who]++
	return w.enough(w.took)
}

// P13.1: calls at random, in views of any members, held against the words.
func TestAtRandom(t *testing.T) {
	rnd := rand.New(rand.NewSource(13))
	one := func(l []int) int { return l[rnd.Intn(len(l))] }
	putting, chosen := 0, 0
	for range 20000 {
		members, own, c := rnd.Intn(32), b(1+rnd.Intn(3), rnd.Intn(3)), join(rnd.Intn(5))
		w := &written{ballot: own, change: c, vowed: map[int]int{}, took: map[int]int{}}
		for who := range 5 {
			w.member[who] = members>>who%2 == 1
		}
		v := vote.New(api.View{Epoch: 1 + rnd.Intn(3), Members: members}, own, c)
		ended := false
		for range 24 {
			who, x := rnd.Intn(5), own
			switch rnd.Intn(12) {
			case 0:
				who = one(numbers)
			case 1:
				x.Round = one([]int{0, 1, 2, 3, 4, math.MaxInt})
			case 2:
				x.Who = one([]int{-1, 0, 1, 2, 3, math.MinInt})
			}
			had, c := b(rnd.Intn(5)-1, rnd.Intn(5)), leave(rnd.Intn(5), rnd.Intn(5))
			if rnd.Intn(3) > 0 {
				got, want := v.Vowed(who, x, had, c), w.vow(who, x, had, c)
				if got != want {
					t.Fatalf("%+v: Vowed by %d of %+v, had %+v: %v", *w, who, x, had, got)
				}
			} else {
				got, want := v.Taken(who, x), w.take(who, x)
				if got != want {
					t.Fatalf("%+v: Taken by %d of %+v: %v", *w, who, x, got)
				}
				ended = ended || got
			}
			is(t, v, own, w.change, w.putting)
		}
		if w.putting {
			putting++
		}
		if ended {
			chosen++
		}
	}
	if putting < 10000 || chosen < 5000 || putting > 19900 {
		t.Fatalf("%d were putting, %d chosen", putting, chosen)
	}
}

// P0: every call ends and none panics, at any numbers.
func TestAnythingEnds(t *testing.T) {
	rnd := rand.New(rand.NewSource(14))
	any := func() int { return numbers[rnd.Intn(len(numbers))] }
	for range 20000 {
		in := api.View{Epoch: any(), Members: any()}
		for i := range in.Heirs {
			in.Heirs[i] = any()
		}
		own, c := b(any(), any()), api.Change{Kind: any(), Who: any(), Heir: any()}
		v := vote.New(in, own, c)
		is(t, v, own, c, false)
		for range 20 {
			who, x, had := any(), b(any(), any()), b(any(), any())
			if rnd.Intn(2) == 0 {
				x = own
			}
			if rnd.Intn(2) == 0 {
				who = rnd.Intn(5)
			}
			outside := who < 0 || who > 4 || in.Members>>who&1 == 0
			was := v.Putting()
			put := v.Vowed(who, x, had, api.Change{Kind: any(), Who: any(), Heir: any()})
			took := v.Taken(who, x)
			if (outside || x != own) && (put || took) || put && was || put != (v.Putting() && !was) || took && !v.Putting() {
				t.Fatalf("%+v, %+v: Vowed by %d of %+v: %v, Taken %v", in, own, who, x, put, took)
			}
			if v.Ballot() != own {
				t.Fatalf("its ballot %+v is %+v", own, v.Ballot())
			}
		}
	}
}
