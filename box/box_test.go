package box_test

import (
	"bytes"
	"math"
	"math/rand"
	"slices"
	"strconv"
	"testing"

	"legatee/api"
	"legatee/box"
)

// most is how many places a box has at most.
const most = 64

// sizes are numbers that New may be handed, and how many places that makes.
var sizes = []struct{ n, places int }{
	{math.MinInt, 1}, {math.MinInt + 1, 1}, {-1 << 32, 1}, {-65, 1}, {-64, 1}, {-2, 1}, {-1, 1}, {0, 1},
	{1, 1}, {2, 2}, {3, 3}, {api.MaxBox, 8}, {31, 31}, {32, 32}, {62, 62}, {63, 63}, {64, 64},
	{65, 64}, {66, 64}, {100, 64}, {127, 64}, {128, 64}, {129, 64}, {256, 64}, {257, 64}, {1 << 16, 64},
	{1 << 32, 64}, {1<<32 + 1, 64}, {math.MaxInt - 1, 64}, {math.MaxInt, 64},
}

// A model is what a box should be: the texts that wait, the first one first.
type model struct {
	places int
	waits  []string
}

func (m *model) put(s string) bool {
	if len(m.waits) == m.places {
		return false
	}
	m.waits = append(m.waits, s)
	return true
}

func (m *model) take() (string, bool) {
	if len(m.waits) == 0 {
		return "", false
	}
	s := m.waits[0]
	m.waits = m.waits[1:]
	return s, true
}

func (m *model) turn() bool {
	s, ok := m.take()
	return ok && m.put(s)
}

func (m *model) twice() bool {
	return len(m.waits) > 0 && m.put(m.waits[0])
}

// Kinds of calls.
const (
	put = iota
	take
	turn
	twice
	clean
	kinds
)

// A pair is a box beside what it should be.
type pair struct {
	box   *box.Box
	model model
	puts  int
}

func newPair(n, places int) *pair {
	return &pair{box: box.New(n), model: model{places: places}}
}

// call has both do one call, and answers whether they answered the same.
func (p *pair) call(kind int) bool {
	same := true
	switch kind {
	case put:
		p.puts++
		s := strconv.Itoa(p.puts)
		same = p.box.Put([]byte(s)) == p.model.put(s)
	case take:
		x, ok := p.box.Take()
		s, want := p.model.take()
		same = ok == want && string(x) == s
	case turn:
		same = p.box.Turn() == p.model.turn()
	case twice:
		same = p.box.Twice() == p.model.twice()
	case clean:
		p.box.Clear()
		p.model.waits = nil
	}
	return same && p.box.Len() == len(p.model.waits)
}

// drain has both take all that waits, and answers whether that was the same.
func (p *pair) drain() bool {
	for range len(p.model.waits) {
		if !p.call(take) {
			return false
		}
	}
	return p.call(take)
}

// fill answers a box of n places in which those texts wait.
func fill(t *testing.T, n int, texts ...string) *box.Box {
	t.Helper()
	b := box.New(n)
	puts(t, b, texts...)
	return b
}

// puts has the box take those texts.
func puts(t *testing.T, b *box.Box, texts ...string) {
	t.Helper()
	for _, s := range texts {
		if !b.Put([]byte(s)) {
			t.Fatalf("Put(%q): false", s)
		}
	}
}

// says has a call have answered want.
func says(t *testing.T, name string, got, want bool) {
	t.Helper()
	if got != want {
		t.Fatalf("%s: %v, not %v", name, got, want)
	}
}

// counts has so many wait.
func counts(t *testing.T, b *box.Box, want int) {
	t.Helper()
	if n := b.Len(); n != want {
		t.Fatalf("Len: %d, not %d", n, want)
	}
}

// takes has Take answer those texts, in their order.
func takes(t *testing.T, b *box.Box, texts ...string) {
	t.Helper()
	for i, s := range texts {
		n := b.Len()
		x, ok := b.Take()
		if !ok || string(x) != s {
			t.Fatalf("Take %d: %q, %v, not %q", i+1, x, ok, s)
		}
		counts(t, b, n-1)
	}
}

// empty has nothing wait: no call but Put finds anything.
func empty(t *testing.T, b *box.Box) {
	t.Helper()
	counts(t, b, 0)
	for range 2 {
		if x, ok := b.Take(); ok || len(x) != 0 {
			t.Fatalf("Take of an empty box: %v, %v", x, ok)
		}
		says(t, "Turn of an empty box", b.Turn(), false)
		says(t, "Twice of an empty box", b.Twice(), false)
		counts(t, b, 0)
	}
}

// ends has those texts wait, and nothing else.
func ends(t *testing.T, b *box.Box, texts ...string) {
	t.Helper()
	counts(t, b, len(texts))
	takes(t, b, texts...)
	empty(t, b)
}

// several answers n texts, no two the same.
func several(n int) []string {
	var l []string
	for i := range n {
		l = append(l, "text "+strconv.Itoa(i))
	}
	return l
}

// P8.1: the chapter's example.
func TestExample(t *testing.T) {
	b := fill(t, 3, "a", "b")
	says(t, "Twice", b.Twice(), true)
	ends(t, b, "a", "b", "a")
}

// P8.1: how many places New makes.
func TestPlaces(t *testing.T) {
	for _, size := range sizes {
		b := box.New(size.n)
		empty(t, b)
		l := several(size.places)
		for i, s := range l {
			if !b.Put([]byte(s)) {
				t.Fatalf("New(%d): no place %d", size.n, i+1)
			}
			counts(t, b, i+1)
		}
		says(t, "Put of one more", b.Put([]byte("more")), false)
		says(t, "Put of none more", b.Put(nil), false)
		ends(t, b, l...)
	}
}

// P8.1: places are filled by Twice as they are by Put.
func TestPlacesByTwice(t *testing.T) {
	for _, size := range sizes {
		b := fill(t, size.n, "a")
		want := []string{"a"}
		for len(want) < size.places {
			says(t, "Twice", b.Twice(), true)
			want = append(want, "a")
			counts(t, b, len(want))
		}
		says(t, "Twice of a full box", b.Twice(), false)
		ends(t, b, want...)
	}
}

// P8.1: what was put comes back in its order.
func TestPutTake(t *testing.T) {
	b := fill(t, 4, "a", "b", "c")
	counts(t, b, 3)
	takes(t, b, "a")
	puts(t, b, "d", "e")
	takes(t, b, "b", "c")
	puts(t, b, "f")
	ends(t, b, "d", "e", "f")
	puts(t, b, "g")
	ends(t, b, "g")
}

// P8.1: a place is free again once its bytes are taken, however often.
func TestPlacesAgain(t *testing.T) {
	for places := 1; places <= most; places++ {
		l := several(places)
		b := fill(t, places, l...)
		for i := range 3 * most {
			s := "again " + strconv.Itoa(i)
			says(t, "Put in a full box", b.Put([]byte(s)), false)
			takes(t, b, l[0])
			puts(t, b, s)
			l = append(l[1:], s)
		}
		ends(t, b, l...)
	}
}

// P8.1: the first ones wait last.
func TestTurn(t *testing.T) {
	b := fill(t, 5, "a", "b", "c")
	says(t, "Turn", b.Turn(), true)
	counts(t, b, 3)
	puts(t, b, "d")
	says(t, "Turn", b.Turn(), true)
	ends(t, b, "c", "a", "d", "b")
}

// P8.1: turns go round through all that wait, in a full box too.
func TestTurnRound(t *testing.T) {
	for _, places := range []int{1, 2, 3, 8, 63, most} {
		for _, n := range []int{1, (places + 1) / 2, places} {
			l := several(n)
			for turns := range 2*n + 2 {
				b := fill(t, places, l...)
				for range turns {
					says(t, "Turn", b.Turn(), true)
					counts(t, b, n)
				}
				first := turns % n
				ends(t, b, slices.Concat(l[first:], l[:first])...)
			}
		}
	}
}

// P8.1: the first ones wait once more, last; all others stay in their order.
func TestTwice(t *testing.T) {
	b := fill(t, 9, "a", "b", "c", "d")
	says(t, "Twice", b.Twice(), true)
	counts(t, b, 5)
	says(t, "Twice", b.Twice(), true)
	counts(t, b, 6)
	takes(t, b, "a")
	says(t, "Twice", b.Twice(), true)
	puts(t, b, "e")
	says(t, "Turn", b.Turn(), true)
	says(t, "Twice", b.Twice(), true)
	ends(t, b, "c", "d", "a", "a", "b", "e", "b", "c")
}

// P8.1: Twice with each number of bytes that wait, and of places.
func TestTwiceOfMany(t *testing.T) {
	for places := 1; places <= most; places++ {
		for n := 1; n <= places; n++ {
			l := several(n)
			b := fill(t, places, l...)
			says(t, "Twice", b.Twice(), n < places)
			if n < places {
				l = append(l, l[0])
			}
			ends(t, b, l...)
		}
	}
}

// P8.1: a full box takes nothing more, and what is refused changes nothing.
func TestFull(t *testing.T) {
	b := fill(t, 3, "a", "b", "c")
	for range 3 {
		says(t, "Put", b.Put([]byte("d")), false)
		says(t, "Put of no bytes", b.Put([]byte{}), false)
		says(t, "Put of nil", b.Put(nil), false)
		says(t, "Twice", b.Twice(), false)
		counts(t, b, 3)
	}
	says(t, "Turn", b.Turn(), true)
	counts(t, b, 3)
	says(t, "Put", b.Put([]byte("e")), false)
	says(t, "Twice", b.Twice(), false)
	takes(t, b, "b")
	says(t, "Twice", b.Twice(), true)
	says(t, "Twice", b.Twice(), false)
	ends(t, b, "c", "a", "c")
	puts(t, b, "f", "g", "h")
	says(t, "Put", b.Put([]byte("i")), false)
	b.Clear()
	empty(t, b)
}

// P8.1: an empty box has nothing, whatever is asked, and is none the worse.
func TestEmpty(t *testing.T) {
	for _, size := range sizes {
		b := box.New(size.n)
		empty(t, b)
		b.Clear()
		empty(t, b)
		puts(t, b, "a")
		ends(t, b, "a")
		puts(t, b, several(size.places)...)
		ends(t, b, several(size.places)...)
	}
}

// P8.1: one that waits alone is first and last.
func TestAlone(t *testing.T) {
	b := fill(t, 1, "a")
	says(t, "Turn", b.Turn(), true)
	counts(t, b, 1)
	says(t, "Twice with one place", b.Twice(), false)
	counts(t, b, 1)
	says(t, "Put with one place", b.Put([]byte("b")), false)
	ends(t, b, "a")

	b = fill(t, 2, "a")
	says(t, "Turn", b.Turn(), true)
	counts(t, b, 1)
	says(t, "Twice with two places", b.Twice(), true)
	counts(t, b, 2)
	says(t, "Twice of a full box", b.Twice(), false)
	ends(t, b, "a", "a")

	b = fill(t, 3, "a")
	says(t, "Twice with three places", b.Twice(), true)
	puts(t, b, "b")
	ends(t, b, "a", "a", "b")
}

// P8.1: no bytes wait as others do.
func TestNoBytes(t *testing.T) {
	for _, none := range [][]byte{nil, {}, []byte("text")[:0]} {
		b := box.New(4)
		says(t, "Put", b.Put(none), true)
		counts(t, b, 1)
		says(t, "Turn", b.Turn(), true)
		says(t, "Twice", b.Twice(), true)
		puts(t, b, "a")
		says(t, "Turn", b.Turn(), true)
		says(t, "Put", b.Put(none), true)
		says(t, "Put of one too many", b.Put(none), false)
		says(t, "Twice of one too many", b.Twice(), false)
		ends(t, b, "", "a", "", "")
	}
}

// P8.1: a cleared box is as a new one.
func TestClear(t *testing.T) {
	for _, size := range sizes {
		b := box.New(size.n)
		for n := range size.places + 1 {
			puts(t, b, several(n)...)
			b.Clear()
			empty(t, b)
			b.Clear()
			puts(t, b, "a")
			says(t, "Turn", b.Turn(), true)
			says(t, "Twice", b.Twice(), size.places > 1)
			b.Clear()
			empty(t, b)
			puts(t, b, several(size.places)...)
			says(t, "Put in a full box", b.Put(nil), false)
			ends(t, b, several(size.places)...)
		}
	}
}

// P8.1: all bytes there are, and many of them, come back as they were.
func TestBytes(t *testing.T) {
	var every []byte
	for i := range 256 {
		every = append(every, byte(i))
	}
	for _, n := range []int{1, 2, 255, 256, 257, api.MaxBytes, api.MaxBytes + 1, 1 << 16, 1 << 20} {
		x := bytes.Repeat(every, n/256+1)[:n]
		y := slices.Clone(x)
		slices.Reverse(y)
		b := fill(t, 4, string(x), string(y), "")
		says(t, "Twice", b.Twice(), true)
		says(t, "Turn", b.Turn(), true)
		ends(t, b, string(y), "", string(x), string(x))
	}
	for _, i := range every {
		x := []byte{i, 'x', i}
		ends(t, fill(t, 3, string(x), string(x[:1]), "x"), string(x), string(x[:1]), "x")
	}
}

// P8.1: Put changes nothing of what it is handed, nor of what stands behind it.
func TestPutLeaves(t *testing.T) {
	x := []byte("abcdef")
	b := box.New(3)
	says(t, "Put", b.Put(x[1:3]), true)
	says(t, "Put", b.Put(x[:2]), true)
	says(t, "Turn", b.Turn(), true)
	says(t, "Twice", b.Twice(), true)
	says(t, "Put in a full box", b.Put(x[2:4]), false)
	for b.Len() > 0 {
		y, _ := b.Take()
		_ = append(y, "zz"...)
		for i := range y {
			y[i] = 'y'
		}
	}
	b.Clear()
	if string(x) != "abcdef" {
		t.Fatalf("%q", x)
	}
}

// P8.1: bytes that are changed behind their Put change nothing that waits.
func TestChangedBehindPut(t *testing.T) {
	x := []byte("abc")
	b := box.New(5)
	for i := range 3 {
		x[0] = byte('1' + i)
		says(t, "Put", b.Put(x), true)
	}
	clear(x)
	says(t, "Twice", b.Twice(), true)
	says(t, "Turn", b.Turn(), true)
	copy(x, "xyz")
	says(t, "Put of some of them", b.Put(x[:2]), true)
	x[1] = '?'
	_ = append(x[:0], "!!!"...)
	ends(t, b, "2bc", "3bc", "1bc", "1bc", "xy")
}

// P8.1: bytes that are changed behind their Take change nothing that waits, nor
// what else was answered.
func TestChangedBehindTake(t *testing.T) {
	b := fill(t, 5, "abc", "def", "abc")
	says(t, "Twice", b.Twice(), true)
	says(t, "Twice", b.Twice(), true)
	var l [][]byte
	for b.Len() > 0 {
		x, _ := b.Take()
		if want := []string{"abc", "def", "abc", "abc", "abc"}[len(l)]; string(x) != want {
			t.Fatalf("Take %d: %q, not %q", len(l)+1, x, want)
		}
		for i := range x {
			x[i] = byte('0' + len(l))
		}
		_ = append(x, "!!!!!!!!"...)
		l = append(l, x)
	}
	for i, x := range l {
		if want := bytes.Repeat([]byte{byte('0' + i)}, 3); !bytes.Equal(x, want) {
			t.Fatalf("behind all: answer %d is %q, not %q", i+1, x, want)
		}
	}
}

// P8.1: those that wait twice are apart, whichever of them was taken, whether
// they went round or not.
func TestTwiceApart(t *testing.T) {
	for turns := range 4 {
		b := fill(t, 4, "ab")
		says(t, "Twice", b.Twice(), true)
		for range turns {
			says(t, "Turn", b.Turn(), true)
		}
		says(t, "Twice", b.Twice(), true)
		says(t, "Twice", b.Twice(), true)
		x, _ := b.Take()
		clear(x)
		says(t, "Put of them", b.Put(x), true)
		copy(x, "??")
		ends(t, b, "ab", "ab", "ab", "\x00\x00")
	}
}

// P8.1: what was taken may be put again, and then is not kept either.
func TestTakenPutAgain(t *testing.T) {
	b := fill(t, 2, "a", "b")
	x, _ := b.Take()
	says(t, "Put", b.Put(x), true)
	x[0] = '?'
	y, _ := b.Take()
	y[0] = '!'
	ends(t, b, "a")
	if string(x) != "?" || string(y) != "!" {
		t.Fatalf("%q, %q", x, y)
	}
}

// P8.1: what is done to one box is nothing to another one.
func TestApart(t *testing.T) {
	a, b := fill(t, 2, "a", "b"), fill(t, 3, "c")
	empty(t, box.New(2))
	empty(t, box.New(3))
	says(t, "Put in a full box", a.Put([]byte("d")), false)
	puts(t, b, "e")
	counts(t, a, 2)
	x, _ := a.Take()
	says(t, "Put", b.Put(x), true)
	x[0] = '?'
	says(t, "Turn", b.Turn(), true)
	ends(t, a, "b")
	counts(t, b, 3)
	a.Clear()
	puts(t, a, "f", "g")
	counts(t, b, 3)
	says(t, "Twice", b.Twice(), false)
	takes(t, b, "e", "a", "c")
	counts(t, a, 2)
	b.Clear()
	ends(t, a, "f", "g")
}

// P8.1: all orders of so many calls, by few places.
func TestAllOrders(t *testing.T) {
	const long = 7
	orders := 1
	for range long {
		orders *= kinds
	}
	for places := 1; places <= 4; places++ {
		for order := range orders {
			p := newPair(places, places)
			var done []int
			for rest, i := order, 0; i < long; rest, i = rest/kinds, i+1 {
				done = append(done, rest%kinds)
				if !p.call(rest % kinds) {
					t.Fatalf("%d places: calls %v", places, done)
				}
			}
			if !p.drain() {
				t.Fatalf("%d places, behind calls %v", places, done)
			}
		}
	}
}

// P8.1: many calls in some order, by each number of places, with boxes that
// grow full and empty.
func TestManyCalls(t *testing.T) {
	r := rand.New(rand.NewSource(8))
	for _, size := range sizes {
		for _, weights := range [][]int{
			{put, put, put, take, turn, twice},
			{put, take, take, turn, twice},
			{put, take, turn, turn, twice, twice},
			{put, put, take, take, turn, twice},
		} {
			p := newPair(size.n, size.places)
			for i := range 2000 {
				kind := weights[r.Intn(len(weights))]
				if r.Intn(200) == 0 {
					kind = clean
				}
				if !p.call(kind) {
					t.Fatalf("New(%d): call %d, of kind %d", size.n, i+1, kind)
				}
			}
			if !p.drain() {
				t.Fatalf("New(%d): behind all calls", size.n)
			}
		}
	}
}

// P8.1: what a box answers hangs on no other one, be they called by turns.
func TestManyBoxes(t *testing.T) {
	r := rand.New(rand.NewSource(88))
	// Two of each size, so that those which are made alike are apart too.
	pairs := slices.Concat(sizes, sizes)
	var l []*pair
	for _, size := range pairs {
		l = append(l, newPair(size.n, size.places))
	}
	for i := range 100000 {
		at := r.Intn(len(l))
		kind := r.Intn(kinds + 6)
		if kind >= kinds {
			kind = put
		}
		if !l[at].call(kind) {
			t.Fatalf("call %d, of kind %d, at New(%d)", i+1, kind, pairs[at].n)
		}
	}
	for at, p := range l {
		if !p.drain() {
			t.Fatalf("New(%d): behind all calls", pairs[at].n)
		}
	}
}
