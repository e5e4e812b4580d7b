package ballot_test

import (
	"math"
	"math/rand"
	"testing"

	"legatee/api"
	"legatee/ballot"
)

// numbers are any, rising.
var numbers = []int{
	math.MinInt, math.MinInt + 1, -1<<32 - 1, -1 << 32, -1<<31 - 1, -1 << 31, -256, -5, -2, -1,
	0, 1, 2, 3, 4, 5, 255, 256, 1<<31 - 1, 1 << 31, 1<<32 - 1, 1 << 32, 1<<32 + 1, 1 << 40, 1<<40 + 1, math.MaxInt - 1, math.MaxInt,
}

// few are some of them, rising.
var few = []int{math.MinInt, math.MinInt + 1, -1 << 32, -1, 0, 1, 2, 1 << 32, math.MaxInt - 1, math.MaxInt}

// rising answers all ballots of these numbers, from the least one on.
func rising(numbers []int) []api.Ballot {
	var l []api.Ballot
	for _, round := range numbers {
		for _, who := range numbers {
			l = append(l, api.Ballot{Round: round, Who: who})
		}
	}
	return l
}

// b answers a ballot, and change a change.
func b(round, who int) api.Ballot           { return api.Ballot{Round: round, Who: who} }
func change(kind, who, heir int) api.Change { return api.Change{Kind: kind, Who: who, Heir: heir} }

// full answers an Acceptor in which no two numbers are one.
func full() ballot.Acceptor {
	return ballot.Acceptor{Epoch: 9, Vow: b(6, 3), Had: b(5, 4), Change: change(1, 2, 7)}
}

// asks has Ask answer want, true.
func asks(t *testing.T, a ballot.Acceptor, epoch int, x api.Ballot, want ballot.Acceptor) ballot.Acceptor {
	t.Helper()
	before := a
	got, ok := a.Ask(epoch, x)
	if !ok || got != want {
		t.Fatalf("%+v: Ask of %+v in %d: %+v, %v, not %+v", before, x, epoch, got, ok, want)
	}
	if a != before {
		t.Fatalf("Ask changed %+v to %+v", before, a)
	}
	return got
}

// puts has Put answer want, true.
func puts(t *testing.T, a ballot.Acceptor, epoch int, x api.Ballot, c api.Change, want ballot.Acceptor) ballot.Acceptor {
	t.Helper()
	before := a
	got, ok := a.Put(epoch, x, c)
	if !ok || got != want {
		t.Fatalf("%+v: Put of %+v, %+v in %d: %+v, %v, not %+v", before, x, c, epoch, got, ok, want)
	}
	if a != before {
		t.Fatalf("Put changed %+v to %+v", before, a)
	}
	return got
}

// refuses has Ask and Put answer itself, false.
func refuses(t *testing.T, a ballot.Acceptor, epoch int, x api.Ballot) {
	t.Helper()
	before := a
	if got, ok := a.Ask(epoch, x); ok || got != before {
		t.Fatalf("%+v: Ask of %+v in %d: %+v, %v, not itself, false", before, x, epoch, got, ok)
	}
	for _, c := range []api.Change{{}, before.Change, change(-1, 77, 88)} {
		if got, ok := a.Put(epoch, x, c); ok || got != before {
			t.Fatalf("%+v: Put of %+v, %+v in %d: %+v, %v, not itself, false", before, x, c, epoch, got, ok)
		}
	}
	if a != before {
		t.Fatalf("%+v was changed to %+v", before, a)
	}
}

// hears has Ask change the Vow alone, and Put all but the Epoch.
func hears(t *testing.T, a ballot.Acceptor, epoch int, x api.Ballot) {
	t.Helper()
	asks(t, a, epoch, x, ballot.Acceptor{Epoch: a.Epoch, Vow: x, Had: a.Had, Change: a.Change})
	for _, c := range []api.Change{{}, a.Change, change(-1, 77, 88)} {
		puts(t, a, epoch, x, c, ballot.Acceptor{Epoch: a.Epoch, Vow: x, Had: x, Change: c})
	}
}

// P12.1: the chapter's example.
func TestWhoVowedTwoTakesNothingOfOne(t *testing.T) {
	a := asks(t, ballot.Acceptor{Epoch: 1}, 1, b(2, 0), ballot.Acceptor{Epoch: 1, Vow: b(2, 0)})
	for who := range 5 {
		refuses(t, a, 1, b(1, who))
	}
	// Nor if it took something of round 2.
	a = puts(t, a, 1, b(2, 0), change(1, 2, 0), ballot.Acceptor{Epoch: 1, Vow: b(2, 0), Had: b(2, 0), Change: change(1, 2, 0)})
	for who := range 5 {
		refuses(t, a, 1, b(1, who))
	}
}

// P12.1: Less, of ballots written out.
func TestLess(t *testing.T) {
	for _, c := range []struct {
		a, b api.Ballot
		want bool
	}{
		{b(1, 0), b(2, 0), true},
		{b(2, 0), b(1, 0), false},
		{b(1, 0), b(1, 1), true},
		{b(1, 1), b(1, 0), false},
		{b(1, 4), b(2, 0), true}, // the Round is ahead of Who
		{b(2, 0), b(1, 4), false},
		{b(1, 1), b(1, 1), false},
		{b(0, 0), b(0, 0), false},
		{b(0, 0), b(1, 0), true},
		{b(0, 4), b(1, 0), true},
		{b(-1, 4), b(0, 0), true},
		{b(0, 0), b(-1, 4), false},
		{b(0, -1), b(0, 0), true},
		{b(-2, 0), b(-1, 0), true},
		{b(9, 0), b(10, 0), true},
		{b(3, 9), b(3, 10), true},
		{b(1<<32, 0), b(1, 0), false},
		{b(1, 0), b(1<<32, 0), true},
		{b(5, 1<<32), b(5, 1), false},
		{b(math.MinInt, 0), b(math.MaxInt, 0), true},
		{b(math.MaxInt, 0), b(math.MinInt, 0), false},
		{b(math.MinInt, 0), b(1, 0), true},
		{b(1, 0), b(math.MinInt, 0), false},
		{b(7, math.MinInt), b(7, math.MaxInt), true},
		{b(7, math.MaxInt), b(7, math.MinInt), false},
		{b(math.MaxInt, math.MaxInt), b(math.MaxInt, math.MaxInt), false},
		{b(math.MinInt, math.MinInt), b(math.MinInt, math.MinInt), false},
		{b(math.MaxInt-1, math.MaxInt), b(math.MaxInt, math.MinInt), true},
	} {
		if got := ballot.Less(c.a, c.b); got != c.want {
			t.Errorf("Less of %+v, %+v: %v", c.a, c.b, got)
		}
	}
}

// P12.1: Less, of any two of all numbers: the one that stands ahead of the
// other one, where all rise, is less.
func TestLessRises(t *testing.T) {
	l := rising(numbers)
	for i, x := range l {
		for j, y := range l {
			if got := ballot.Less(x, y); got != (i < j) {
				t.Fatalf("Less of %+v, %+v: %v", x, y, got)
			}
		}
	}
}

// P12.1: Less is one order.
func TestLessIsOneOrder(t *testing.T) {
	l := rising(few)
	for _, x := range l {
		if ballot.Less(x, x) {
			t.Fatalf("%+v is Less than itself", x)
		}
		for _, y := range l {
			if x != y && ballot.Less(x, y) == ballot.Less(y, x) {
				t.Fatalf("of %+v, %+v not just one is Less", x, y)
			}
			if !ballot.Less(x, y) {
				continue
			}
			for _, z := range l {
				if ballot.Less(y, z) && !ballot.Less(x, z) {
					t.Fatalf("%+v, %+v, %+v: less than less isn't Less", x, y, z)
				}
			}
		}
	}
}

// P12.1: Ask changes the Vow, and nothing else.
func TestAskChangesTheVowAlone(t *testing.T) {
	asks(t, full(), 9, b(7, 0), ballot.Acceptor{Epoch: 9, Vow: b(7, 0), Had: b(5, 4), Change: change(1, 2, 7)})
	asks(t, full(), 9, b(6, 4), ballot.Acceptor{Epoch: 9, Vow: b(6, 4), Had: b(5, 4), Change: change(1, 2, 7)})
	asks(t, full(), 9, b(6, 3), full())
	asks(t, ballot.Acceptor{Epoch: 2}, 2, b(1, 0), ballot.Acceptor{Epoch: 2, Vow: b(1, 0)})
	asks(t, ballot.Acceptor{Epoch: 2}, 2, b(1, 4), ballot.Acceptor{Epoch: 2, Vow: b(1, 4)})
}

// P12.1: Put changes Vow, Had and Change, and not the Epoch; no Ask need be
// ahead of it.
func TestPutChangesAllButTheEpoch(t *testing.T) {
	puts(t, full(), 9, b(7, 0), change(0, 4, 1), ballot.Acceptor{Epoch: 9, Vow: b(7, 0), Had: b(7, 0), Change: change(0, 4, 1)})
	puts(t, full(), 9, b(6, 4), change(0, 4, 1), ballot.Acceptor{Epoch: 9, Vow: b(6, 4), Had: b(6, 4), Change: change(0, 4, 1)})
	puts(t, full(), 9, b(6, 3), change(0, 4, 1), ballot.Acceptor{Epoch: 9, Vow: b(6, 3), Had: b(6, 3), Change: change(0, 4, 1)})
	puts(t, full(), 9, b(6, 3), api.Change{}, ballot.Acceptor{Epoch: 9, Vow: b(6, 3), Had: b(6, 3)})
	puts(t, ballot.Acceptor{Epoch: 2}, 2, b(1, 0), change(1, 1, 2), ballot.Acceptor{Epoch: 2, Vow: b(1, 0), Had: b(1, 0), Change: change(1, 1, 2)})
}

// P12.1: with false nothing is changed.
func TestFalseIsItself(t *testing.T) {
	a := full()
	refuses(t, a, 8, b(7, 0))
	refuses(t, a, 10, b(7, 0))
	refuses(t, a, 9, b(6, 2))
	refuses(t, a, 9, b(5, 4)) // it had that, but vowed another one since
	refuses(t, a, 9, b(5, 9))
	refuses(t, a, 9, b(0, 9))
	refuses(t, a, 9, b(-1, 9))
	refuses(t, a, 8, b(0, 0)) // of all three there is a reason
	refuses(t, ballot.Acceptor{Epoch: 3}, 0, b(1, 0))
	refuses(t, ballot.Acceptor{}, 1, b(1, 0))
}

// P12.1: a ballot that is just the Vow is vowed, and taken, again, each time
// as the first time; of several changes the last one stays.
func TestJustTheVowOnceMore(t *testing.T) {
	a := asks(t, ballot.Acceptor{Epoch: 4}, 4, b(3, 2), ballot.Acceptor{Epoch: 4, Vow: b(3, 2)})
	for range 3 {
		a = asks(t, a, 4, b(3, 2), ballot.Acceptor{Epoch: 4, Vow: b(3, 2)})
	}
	for _, c := range []api.Change{change(0, 3, 0), change(0, 3, 0), change(1, 0, 1)} {
		a = puts(t, a, 4, b(3, 2), c, ballot.Acceptor{Epoch: 4, Vow: b(3, 2), Had: b(3, 2), Change: c})
		a = asks(t, a, 4, b(3, 2), a)
	}
}

// P12.1: the same Round and another Who, below and above.
func TestSameRoundOtherWho(t *testing.T) {
	for vow := range 5 {
		a := asks(t, ballot.Acceptor{Epoch: 1}, 1, b(2, vow), ballot.Acceptor{Epoch: 1, Vow: b(2, vow)})
		for who := -2; who < 7; who++ {
			if who < vow {
				refuses(t, a, 1, b(2, who))
			} else {
				hears(t, a, 1, b(2, who))
			}
		}
	}
}

// P12.1: a Round below 1 is refused, whatever is vowed: though it is not less
// than the Vow, or is just that.
func TestRoundsBelowOne(t *testing.T) {
	for _, round := range []int{0, -1, -2, -1 << 31, -1 << 32, math.MinInt + 1, math.MinInt} {
		for _, who := range numbers {
			refuses(t, ballot.Acceptor{Epoch: 1}, 1, b(round, who))
			refuses(t, ballot.Acceptor{Epoch: 1, Vow: b(round, who)}, 1, b(round, who))
			refuses(t, ballot.Acceptor{Epoch: 1, Vow: b(math.MinInt, math.MinInt)}, 1, b(round, who))
			refuses(t, ballot.Acceptor{Epoch: 1, Vow: b(1, 0)}, 1, b(round, who))
			// Round 1 is enough, whatever round below it was vowed.
			hears(t, ballot.Acceptor{Epoch: 1, Vow: b(round, who)}, 1, b(1, who))
			hears(t, ballot.Acceptor{Epoch: 1, Vow: b(round, math.MaxInt)}, 1, b(1, who))
		}
	}
	// None vowed is round 0 of machine 0, which is no bound to round 1.
	hears(t, ballot.Acceptor{Epoch: 1}, 1, b(1, 0))
	hears(t, ballot.Acceptor{Epoch: 1}, 1, b(1, -1))
	hears(t, ballot.Acceptor{Epoch: 1}, 1, b(1, math.MinInt))
}

// P12.1: another epoch than its own is refused, one less and one more too;
// any number may be an epoch, 0 and below too.
func TestEpochs(t *testing.T) {
	for _, own := range numbers {
		a := full()
		a.Epoch = own
		hears(t, a, own, b(7, 1))
		hears(t, a, own, b(6, 3))
		hears(t, ballot.Acceptor{Epoch: own}, own, b(1, 0))
		for _, epoch := range append([]int{own - 1, own + 1, -own - 1, own ^ 1<<32, own ^ math.MinInt}, numbers...) {
			if epoch != own {
				refuses(t, a, epoch, b(7, 1))
				refuses(t, a, epoch, b(6, 3))
				refuses(t, ballot.Acceptor{Epoch: own}, epoch, b(1, 0))
			}
		}
	}
}

// P12.1: any Vow, and any ballot: the words, at all places.
func TestAnyVowAnyBallot(t *testing.T) {
	l := rising(numbers)
	for i, vow := range l {
		a := ballot.Acceptor{Epoch: -3, Vow: vow, Had: b(77, 78), Change: change(79, 80, 81)}
		for j, x := range l {
			if j >= i && x.Round > 0 {
				hears(t, a, -3, x)
			} else {
				refuses(t, a, -3, x)
			}
		}
	}
}

// P12.1: what it had has no say in what it vows and takes, and stays as it is
// through each Ask.
func TestHadHasNoSay(t *testing.T) {
	for _, had := range rising(numbers) {
		a := ballot.Acceptor{Epoch: 1, Vow: b(3, 2), Had: had, Change: change(had.Who, had.Round, -1)}
		hears(t, a, 1, b(3, 2))
		hears(t, a, 1, b(3, 3))
		hears(t, a, 1, b(4, 0))
		refuses(t, a, 1, b(3, 1))
		refuses(t, a, 1, b(2, 9))
		refuses(t, a, 2, b(4, 0))
	}
}

// P12.1: any Change is taken as it is: whether it may be isn't asked here.
func TestAnyChange(t *testing.T) {
	for _, kind := range numbers {
		for _, who := range numbers {
			for _, heir := range numbers {
				c := change(kind, who, heir)
				puts(t, full(), 9, b(7, 1), c, ballot.Acceptor{Epoch: 9, Vow: b(7, 1), Had: b(7, 1), Change: c})
			}
		}
	}
}

// P12.1: several asked and put, one behind the other: rounds that rise, stay,
// and fall.
func TestOneBehindTheOther(t *testing.T) {
	x, y := change(0, 3, 0), change(1, 2, 0)
	a := ballot.Acceptor{Epoch: 1}
	a = asks(t, a, 1, b(1, 1), ballot.Acceptor{Epoch: 1, Vow: b(1, 1)})
	a = puts(t, a, 1, b(1, 1), x, ballot.Acceptor{Epoch: 1, Vow: b(1, 1), Had: b(1, 1), Change: x})
	a = asks(t, a, 1, b(1, 2), ballot.Acceptor{Epoch: 1, Vow: b(1, 2), Had: b(1, 1), Change: x})
	refuses(t, a, 1, b(1, 1)) // that which it took is behind now
	a = asks(t, a, 1, b(4, 0), ballot.Acceptor{Epoch: 1, Vow: b(4, 0), Had: b(1, 1), Change: x})
	refuses(t, a, 1, b(3, 4))
	refuses(t, a, 1, b(1, 2))
	a = puts(t, a, 1, b(4, 0), y, ballot.Acceptor{Epoch: 1, Vow: b(4, 0), Had: b(4, 0), Change: y})
	a = puts(t, a, 1, b(4, 3), x, ballot.Acceptor{Epoch: 1, Vow: b(4, 3), Had: b(4, 3), Change: x}) // unasked
	refuses(t, a, 1, b(4, 0))
	refuses(t, a, 1, b(4, 2))
	a = asks(t, a, 1, b(9, 0), ballot.Acceptor{Epoch: 1, Vow: b(9, 0), Had: b(4, 3), Change: x})
	a = asks(t, a, 1, b(9, 0), a)
	a = asks(t, a, 1, b(10, 0), ballot.Acceptor{Epoch: 1, Vow: b(10, 0), Had: b(4, 3), Change: x})
	refuses(t, a, 1, b(9, 4))
	a = puts(t, a, 1, b(12, 4), y, ballot.Acceptor{Epoch: 1, Vow: b(12, 4), Had: b(12, 4), Change: y})
	refuses(t, a, 1, b(12, 3))
	refuses(t, a, 2, b(13, 0))
	a = asks(t, a, 1, b(math.MaxInt, math.MaxInt), ballot.Acceptor{Epoch: 1, Vow: b(math.MaxInt, math.MaxInt), Had: b(12, 4), Change: y})
	refuses(t, a, 1, b(math.MaxInt, math.MaxInt-1))
	refuses(t, a, 1, b(math.MaxInt-1, math.MaxInt))
	refuses(t, a, 1, b(math.MinInt, math.MinInt))
	hears(t, a, 1, b(math.MaxInt, math.MaxInt))
}

// P12.1: each answer hangs on the Acceptor that is called, not on what was
// called before: two go their own ways from one, which is as it was.
func TestTwoFromOne(t *testing.T) {
	one := asks(t, ballot.Acceptor{Epoch: 1}, 1, b(2, 2), ballot.Acceptor{Epoch: 1, Vow: b(2, 2)})
	left := asks(t, one, 1, b(8, 0), ballot.Acceptor{Epoch: 1, Vow: b(8, 0)})
	right := puts(t, one, 1, b(3, 1), change(0, 4, 0), ballot.Acceptor{Epoch: 1, Vow: b(3, 1), Had: b(3, 1), Change: change(0, 4, 0)})
	refuses(t, left, 1, b(3, 1))
	hears(t, right, 1, b(3, 1))
	hears(t, one, 1, b(2, 2))
	refuses(t, right, 1, b(2, 2))
	hears(t, left, 1, b(8, 0))
	if one != (ballot.Acceptor{Epoch: 1, Vow: b(2, 2)}) {
		t.Fatalf("%+v", one)
	}
}

// P12.1: calls at random, held against what was vowed (its place in a list of
// all ballots that rise) and taken so far.
func TestAtRandom(t *testing.T) {
	rnd := rand.New(rand.NewSource(12))
	l := rising([]int{-1, 0, 1, 2, 3, 4})
	heard := 0
	for range 2000 {
		a, vowed := ballot.Acceptor{Epoch: 1}, 0
		for l[vowed] != b(0, 0) {
			vowed++
		}
		var had api.Ballot
		var took api.Change
		for range 30 {
			epoch, i, c := rnd.Intn(3), rnd.Intn(len(l)), change(rnd.Intn(2), rnd.Intn(5), rnd.Intn(5))
			if epoch != 1 || l[i].Round < 1 || i < vowed {
				refuses(t, a, epoch, l[i])
				continue
			}
			heard++
			vowed = i
			if rnd.Intn(2) == 0 {
				a = asks(t, a, epoch, l[i], ballot.Acceptor{Epoch: 1, Vow: l[i], Had: had, Change: took})
				continue
			}
			had, took = l[i], c
			a = puts(t, a, epoch, l[i], c, ballot.Acceptor{Epoch: 1, Vow: l[i], Had: had, Change: took})
		}
	}
	if heard < 2000 {
		t.Fatalf("%d tries alone were heard", heard)
	}
}

// P0: every call ends and none panics, whatever stands in the Acceptor and
// beside it; with false it is itself.
func TestAnythingEnds(t *testing.T) {
	rnd := rand.New(rand.NewSource(13))
	any := func() int { return numbers[rnd.Intn(len(numbers))] }
	for range 200000 {
		a := ballot.Acceptor{Epoch: any(), Vow: b(any(), any()), Had: b(any(), any()), Change: change(any(), any(), any())}
		epoch, x, c := any(), b(any(), any()), change(any(), any(), any())
		if rnd.Intn(2) == 0 {
			epoch = a.Epoch
		}
		before := a
		asked, ok := a.Ask(epoch, x)
		put, too := a.Put(epoch, x, c)
		if ok != too {
			t.Fatalf("%+v: %+v in %d: Ask %v, Put %v", before, x, epoch, ok, too)
		}
		if !ok && (asked != before || put != before) {
			t.Fatalf("%+v: %+v in %d: %+v, %+v, false", before, x, epoch, asked, put)
		}
		if ok && (epoch != before.Epoch || x.Round < 1 || ballot.Less(x, before.Vow) || asked.Vow != x || put.Had != x) {
			t.Fatalf("%+v: %+v in %d: %+v, %+v, true", before, x, epoch, asked, put)
		}
		if a != before {
			t.Fatalf("%+v was changed to %+v", before, a)
		}
	}
}
