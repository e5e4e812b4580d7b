package vote_test

import (
	"math/bits"
	"math/rand"
	"testing"

	"legatee/api"
	"legatee/ballot"
	"legatee/vote"
)

// tries, which rise, are by what the votes of a view are of which machines 0 to
// 2 are members; changes are their own ones.
var (
	tries   = [3]api.Ballot{b(1, 0), b(1, 2), b(2, 1)}
	changes = [3]api.Change{join(3), join(4), leave(1, 0)}
)

// A world is what there was asked, vowed, told, put and taken so far. Tries
// and changes are told by their places, and 1; 0 is none.
type world struct {
	vow, had, change [3]int8    // what each machine vowed and took
	asked, on, took  [3]uint8   // by each vote: who vowed, whose vow is on its way, who took
	by, of           [3][3]int8 // what each of them had, as its vow tells
	told             [3][3]int8 // whose vows were told, one behind the other, and 1
}

// place answers the place of x in l, and 1; 0, if it is the zero value.
func place[T comparable](l [3]T, x T) int8 {
	for i, y := range l {
		if y == x {
			return int8(i + 1)
		}
	}
	return 0
}

// at answers that which stands at such a place.
func at[T any](l [3]T, place int8) T {
	var x T
	if place > 0 {
		x = l[place-1]
	}
	return x
}

// machine answers what who vowed and took, and keeps stores it.
func (w *world) machine(who int) ballot.Acceptor {
	return ballot.Acceptor{Epoch: 1, Vow: at(tries, w.vow[who]), Had: at(tries, w.had[who]), Change: at(changes, w.change[who])}
}

func (w *world) keeps(who int, a ballot.Acceptor) {
	w.vow[who], w.had[who], w.change[who] = place(tries, a.Vow), place(tries, a.Had), place(changes, a.Change)
}

// vote answers vote i, once all was told to it that was so far.
func (w *world) vote(i int) *vote.Vote {
	v := vote.New(of(0, 1, 2), tries[i], changes[i])
	for _, one := range w.told[i] {
		if who := int(one) - 1; who >= 0 {
			v.Vowed(who, tries[i], at(tries, w.by[i][who]), at(changes, w.of[i][who]))
		}
	}
	return v
}

// ask has machine who be asked by vote i: what it vows is on its way. False:
// it doesn't vow.
func (w world) ask(i, who int) (world, bool) {
	a, ok := w.machine(who).Ask(1, tries[i])
	w.keeps(who, a)
	w.asked[i] |= 1 << who
	w.on[i] |= 1 << who
	w.by[i][who], w.of[i][who] = w.had[who], w.change[who]
	return w, ok
}

// tell has the vow of machine who come to vote i.
func (w world) tell(i, who int) world {
	w.on[i] &^= 1 << who
	for n, one := range w.told[i] {
		if one == 0 {
			w.told[i][n] = int8(who + 1)
			break
		}
	}
	return w
}

// put has machine who be put what vote i puts. False: it doesn't take it.
func (w world) put(i, who int) (world, bool) {
	a, ok := w.machine(who).Put(1, tries[i], w.vote(i).Change())
	w.keeps(who, a)
	w.took[i] |= 1 << who
	return w, ok
}

// next answers all worlds that are one step from w; late has each vow be told
// by a step of its own.
func (w world) next(votes int, late bool) []world {
	var l []world
	for i := range votes {
		putting := w.vote(i).Putting()
		for who := range 3 {
			if w.asked[i]>>who&1 == 0 && (late || !putting) {
				x, ok := w.ask(i, who)
				if ok && late {
					l = append(l, x)
				} else if ok {
					l = append(l, x.tell(i, who))
				}
			}
			if w.on[i]>>who&1 == 1 {
				l = append(l, w.tell(i, who))
			}
			if putting && w.took[i]>>who&1 == 0 {
				if x, ok := w.put(i, who); ok {
					l = append(l, x)
				}
			}
		}
	}
	return l
}

// chosen answers what is chosen, of each vote of which something is.
func (w *world) chosen(t *testing.T, votes int) []api.Change {
	var l []api.Change
	for i := range votes {
		v, n := w.vote(i), 0
		for who := range 3 {
			if w.took[i]>>who&1 == 0 {
				continue
			}
			n++
			if got := v.Taken(who, tries[i]); got != (n >= 2) {
				t.Fatalf("%+v: vote %d, Taken by %d as number %d: %v", *w, i, who, n, got)
			}
		}
		if n >= 2 {
			l = append(l, v.Change())
		}
	}
	return l
}

// walk goes through all worlds that votes may come to; it answers how many
// there are, in how many something is chosen by several votes, and in how many
// a vote's change that isn't its own is.
func walk(t *testing.T, votes int, late bool) (all, several, others int) {
	seen := map[world]bool{{}: true}
	ways := []world{{}}
	for len(ways) > 0 {
		w := ways[len(ways)-1]
		ways = ways[:len(ways)-1]
		l := w.chosen(t, votes)
		for _, c := range l {
			if c != l[0] {
				t.Fatalf("%+v: %+v are chosen", w, l)
			}
		}
		if len(l) > 1 {
			several++
		}
		for i := range votes {
			if bits.OnesCount8(w.took[i]) >= 2 && w.vote(i).Change() != changes[i] {
				others++
			}
		}
		for _, x := range w.next(votes, late) {
			if !seen[x] {
				seen[x] = true
				ways = append(ways, x)
			}
		}
	}
	return len(seen), several, others
}

// P13.2: two votes in one view of three members, in any order whatever: what
// is asked, vowed, told and put, late or never.
func TestTwoVotesInAnyOrder(t *testing.T) {
	all, several, others := walk(t, 2, true)
	if all < 1000 || several == 0 || others == 0 {
		t.Fatalf("of %d worlds several votes' changes were chosen in %d, others' than the own one in %d", all, several, others)
	}
}

// P13.2: three of them, if each vow is told at once or never is.
func TestThreeVotesInAnyOrder(t *testing.T) {
	all, several, others := walk(t, 3, false)
	if all < 1000 || several == 0 || others == 0 {
		t.Fatalf("of %d worlds several votes' changes were chosen in %d, others' than the own one in %d", all, several, others)
	}
}

// A letter is what a vote and a machine send one another, by a try.
type letter struct {
	kind int // of messages: MsgAsk, MsgPromise, MsgPut, MsgTaken
	who  int // the machine
	try  api.Ballot
	had  api.Ballot
	c    api.Change
}

// A put is what a vote puts.
type put struct {
	try api.Ballot
	c   api.Change
}

// A town is votes in one view, machines, and what is on its way, which comes
// in any order, more than once, or never.
type town struct {
	in       api.View
	machines [5]ballot.Acceptor // members or not
	votes    map[api.Ballot]*vote.Vote
	own      map[api.Ballot]api.Change
	way      []letter
	took     map[put]map[int]int // which members took it, and how often
	chosen   map[api.Change]int
	others   int // how often something is chosen that wasn't the vote's own
}

// begun answers a town of which nobody sent anything yet.
func begun(epoch, members int) *town {
	w := &town{in: api.View{Epoch: epoch, Members: members}, votes: map[api.Ballot]*vote.Vote{}, own: map[api.Ballot]api.Change{}}
	w.took, w.chosen = map[put]map[int]int{}, map[api.Change]int{}
	for i := range w.machines {
		w.machines[i].Epoch = epoch
	}
	return w
}

// begin has a vote begin, by a try that no vote has, and ask some.
func (w *town) begin(rnd *rand.Rand, try api.Ballot) {
	if w.votes[try] != nil {
		return
	}
	c := leave(len(w.votes), rnd.Intn(5)) // of no two votes it is the same
	w.votes[try], w.own[try] = vote.New(w.in, try, c), c
	w.send(rnd, letter{kind: api.MsgAsk, try: try})
}

// send has l be on its way to some machines.
func (w *town) send(rnd *rand.Rand, l letter) {
	for range 3 + rnd.Intn(5) {
		l.who = rnd.Intn(5)
		w.way = append(w.way, l)
	}
}

// come has l come where it is sent to; what comes of it is on its way.
func (w *town) come(t *testing.T, rnd *rand.Rand, l letter) {
	a := &w.machines[l.who]
	ok := false
	switch l.kind {
	case api.MsgAsk:
		if *a, ok = a.Ask(w.in.Epoch, l.try); ok {
			w.way = append(w.way, letter{api.MsgPromise, l.who, l.try, a.Had, a.Change})
		}
	case api.MsgPut:
		if *a, ok = a.Put(w.in.Epoch, l.try, l.c); ok {
			w.takes(l.who, put{l.try, l.c})
			w.way = append(w.way, letter{kind: api.MsgTaken, who: l.who, try: l.try})
		}
	default:
		for _, v := range w.votes { // it is for each of them to know whether it is its own
			w.tell(t, rnd, v, l)
		}
	}
}

// takes has a machine have taken p: if more than half of the members did, it
// is chosen.
func (w *town) takes(who int, p put) {
	if w.in.Members>>who&1 == 0 {
		return
	}
	if w.took[p] == nil {
		w.took[p] = map[int]int{}
	}
	w.took[p][who]++
	if 2*len(w.took[p]) > bits.OnesCount(uint(w.in.Members)) {
		w.chosen[p.c]++
		if p.c != w.own[p.try] {
			w.others++
		}
	}
}

// tell has what a machine sends come to v.
func (w *town) tell(t *testing.T, rnd *rand.Rand, v *vote.Vote, l letter) {
	if l.kind == api.MsgPromise && v.Vowed(l.who, l.try, l.had, l.c) {
		w.send(rnd, letter{kind: api.MsgPut, try: l.try, c: v.Change()})
	}
	if l.kind == api.MsgTaken && v.Taken(l.who, l.try) && w.chosen[v.Change()] == 0 {
		t.Fatalf("in %+v the vote by %+v tells that %+v is chosen; %+v are", w.in, v.Ballot(), v.Change(), w.chosen)
	}
}

// P13.2: several votes in a view of any members, of whom some begin while
// others are under way, with machines beside the members that vow and take
// too; what is sent comes in any order, twice, or never.
func TestVotesAtRandom(t *testing.T) {
	rnd := rand.New(rand.NewSource(132))
	chosen, others := 0, 0
	for range 30000 {
		w := begun(1+rnd.Intn(9), 1+rnd.Intn(31))
		rounds := 1 + rnd.Intn(1+rnd.Intn(4))
		for i := range 150 {
			if i == 0 || rnd.Intn(15) == 0 {
				w.begin(rnd, b(1+rnd.Intn(rounds), rnd.Intn(5)))
			}
			if len(w.way) == 0 {
				continue
			}
			i := rnd.Intn(len(w.way))
			l, fate := w.way[i], rnd.Intn(10)
			if fate != 0 { // else it is lost
				w.come(t, rnd, l)
			}
			if fate < 8 { // else it comes once more
				w.way = append(w.way[:i], w.way[i+1:]...)
			}
		}
		if len(w.chosen) > 1 {
			t.Fatalf("in %+v there are chosen %+v", w.in, w.chosen)
		}
		chosen += len(w.chosen)
		if w.others > 0 {
			others++
		}
	}
	if chosen < 5000 || others < 500 {
		t.Fatalf("a change was chosen in %d, another one than a vote's own in %d", chosen, others)
	}
}
