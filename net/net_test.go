package net_test

import (
	"bytes"
	"math"
	"math/rand"
	"slices"
	"strconv"
	"testing"

	"legatee/api"
	"legatee/box"
	"legatee/net"
)

// A pair is two numbers that may be machines.
type pair struct{ from, to int }

// back answers the pair the other way round.
func (p pair) back() pair { return pair{p.to, p.from} }

// String tells the pair.
func (p pair) String() string { return strconv.Itoa(p.from) + " to " + strconv.Itoa(p.to) }

// numbers are the machines, and numbers that are none.
var numbers = []int{
	0, 1, 2, 3, 4,
	-1, -2, -4, -5, -6, -1 << 16, -1 << 31, -1<<31 - 1, -1 << 32, 1 - 1<<32, math.MinInt + 1, math.MinInt, math.MinInt + 4,
	5, 6, 7, 8, 9, 10, 20, 24, 25, 31, 32, 63, 64, 255, 256, 257, 1 << 16, 1<<31 - 1, 1 << 31, 1 << 32, 1<<32 + 1, math.MaxInt - 1, math.MaxInt,
}

// ways answers all pairs of two machines.
func ways() []pair {
	var l []pair
	for from := 0; from < 5; from++ {
		for to := 0; to < 5; to++ {
			if from != to {
				l = append(l, pair{from, to})
			}
		}
	}
	return l
}

// wrongs answers pairs that aren't two machines.
func wrongs() []pair {
	var l []pair
	for _, from := range numbers {
		for _, to := range numbers {
			if from == to || from < 0 || from > 4 || to < 0 || to > 4 {
				l = append(l, pair{from, to})
			}
		}
	}
	return l
}

// way answers the box of a way that there is.
func way(t *testing.T, n *net.Net, p pair) *box.Box {
	t.Helper()
	b := n.Way(p.from, p.to)
	if b == nil {
		t.Fatalf("Way %v: nil", p)
	}
	return b
}

// says has a call have answered want.
func says(t *testing.T, name string, got, want bool) {
	t.Helper()
	if got != want {
		t.Fatalf("%s: %v, not %v", name, got, want)
	}
}

// sends has the network take those texts, on one way.
func sends(t *testing.T, n *net.Net, p pair, texts ...string) {
	t.Helper()
	for _, s := range texts {
		if !n.Send(p.from, p.to, []byte(s)) {
			t.Fatalf("Send %v of %q: false", p, s)
		}
	}
}

// loses has the network lose those texts, on one way, and be as it was.
func loses(t *testing.T, n *net.Net, p pair, texts ...string) {
	t.Helper()
	all := n.Len()
	for _, s := range texts {
		if n.Send(p.from, p.to, []byte(s)) {
			t.Fatalf("Send %v of %q: true", p, s)
		}
		counts(t, n, all)
	}
}

// counts has so many be on their way in all.
func counts(t *testing.T, n *net.Net, want int) {
	t.Helper()
	if all := n.Len(); all != want {
		t.Fatalf("Len: %d, not %d", all, want)
	}
}

// bears has so many be on one way.
func bears(t *testing.T, n *net.Net, p pair, want int) {
	t.Helper()
	if got := way(t, n, p).Len(); got != want {
		t.Fatalf("Len of the way %v: %d, not %d", p, got, want)
	}
}

// takes has those texts come by one way, in their order.
func takes(t *testing.T, n *net.Net, p pair, texts ...string) {
	t.Helper()
	for i, s := range texts {
		all, here := n.Len(), way(t, n, p).Len()
		x, ok := way(t, n, p).Take()
		if !ok || string(x) != s {
			t.Fatalf("Take %d of the way %v: %q, %v, not %q", i+1, p, x, ok, s)
		}
		counts(t, n, all-1)
		bears(t, n, p, here-1)
	}
}

// empty has nothing be on one way.
func empty(t *testing.T, n *net.Net, p pair) {
	t.Helper()
	bears(t, n, p, 0)
	if x, ok := way(t, n, p).Take(); ok || len(x) != 0 {
		t.Fatalf("Take of the empty way %v: %q, %v", p, x, ok)
	}
	says(t, "Turn of an empty way", way(t, n, p).Turn(), false)
	says(t, "Twice of an empty way", way(t, n, p).Twice(), false)
}

// ends has those texts be on one way, and nothing else there.
func ends(t *testing.T, n *net.Net, p pair, texts ...string) {
	t.Helper()
	bears(t, n, p, len(texts))
	takes(t, n, p, texts...)
	empty(t, n, p)
}

// bare has nothing be on any way.
func bare(t *testing.T, n *net.Net) {
	t.Helper()
	counts(t, n, 0)
	for _, p := range ways() {
		empty(t, n, p)
	}
	counts(t, n, 0)
}

// several answers k texts for one way, no two of any ways the same.
func several(p pair, k int) []string {
	var l []string
	for i := range k {
		l = append(l, p.String()+", text "+strconv.Itoa(i))
	}
	return l
}

// P9.1: the chapter's example.
func TestExample(t *testing.T) {
	n := net.New()
	p := pair{0, 1}
	sends(t, n, p, "1", "2", "3", "4", "5", "6", "7", "8")
	loses(t, n, p, "9")
	ends(t, n, p, "1", "2", "3", "4", "5", "6", "7", "8")
	bare(t, n)
}

// P9.1: nothing is on its way in a new network, and each two machines have a
// way.
func TestNew(t *testing.T) {
	n := net.New()
	if n == nil {
		t.Fatal("New: nil")
	}
	bare(t, n)
	bare(t, n)
	if len(ways()) != 20 {
		t.Fatalf("%d ways", len(ways()))
	}
	for _, p := range ways() {
		sends(t, n, p, "a")
		counts(t, n, 1)
		ends(t, n, p, "a")
		bare(t, n)
	}
}

// P9.1: what was sent on several ways comes by each in its order.
func TestSend(t *testing.T) {
	n := net.New()
	sends(t, n, pair{0, 1}, "a", "b")
	sends(t, n, pair{1, 0}, "c")
	sends(t, n, pair{0, 4}, "d", "e")
	sends(t, n, pair{0, 1}, "f")
	sends(t, n, pair{3, 2}, "g")
	counts(t, n, 7)
	bears(t, n, pair{0, 1}, 3)
	bears(t, n, pair{1, 0}, 1)
	bears(t, n, pair{0, 4}, 2)
	bears(t, n, pair{3, 2}, 1)
	bears(t, n, pair{2, 3}, 0)
	takes(t, n, pair{0, 1}, "a")
	sends(t, n, pair{0, 1}, "h")
	ends(t, n, pair{3, 2}, "g")
	takes(t, n, pair{0, 4}, "d")
	ends(t, n, pair{0, 1}, "b", "f", "h")
	sends(t, n, pair{0, 4}, "i")
	counts(t, n, 3)
	ends(t, n, pair{1, 0}, "c")
	ends(t, n, pair{0, 4}, "e", "i")
	bare(t, n)
}

// P9.1: numbers that aren't two machines have no way, and what is sent there is
// lost: in an empty network, and in one that bears bytes.
func TestNoSuchWay(t *testing.T) {
	n := net.New()
	for _, each := range []int{0, 1, 8} {
		for _, p := range ways() {
			for way(t, n, p).Len() < each {
				sends(t, n, p, several(p, each)[way(t, n, p).Len()])
			}
		}
		for _, p := range wrongs() {
			if b := n.Way(p.from, p.to); b != nil {
				t.Fatalf("Way %v: one of %d", p, b.Len())
			}
			loses(t, n, p, "x", "")
			says(t, "Send of nil", n.Send(p.from, p.to, nil), false)
		}
		counts(t, n, 20*each)
	}
	for _, p := range ways() {
		ends(t, n, p, several(p, 8)...)
	}
	bare(t, n)
}

// P9.1: a machine has no way to itself.
func TestToItself(t *testing.T) {
	n := net.New()
	for m := range 5 {
		if n.Way(m, m) != nil {
			t.Fatalf("Way %d to %d: one", m, m)
		}
		for range 10 {
			loses(t, n, pair{m, m}, "x", "")
			says(t, "Send of nil", n.Send(m, m, nil), false)
		}
	}
	bare(t, n)
}

// P9.1: how many places each way has.
func TestPlaces(t *testing.T) {
	n := net.New()
	for i, p := range ways() {
		l := several(p, 8)
		for k, s := range l {
			sends(t, n, p, s)
			bears(t, n, p, k+1)
			counts(t, n, 8*i+k+1)
		}
		loses(t, n, p, "the ninth", "", "the tenth")
		says(t, "Send of nil", n.Send(p.from, p.to, nil), false)
		says(t, "Twice of a full way", way(t, n, p).Twice(), false)
		bears(t, n, p, 8)
	}
	counts(t, n, 20*api.MaxBox)
	for _, p := range ways() {
		loses(t, n, p, "the ninth")
	}
	for i, p := range ways() {
		ends(t, n, p, several(p, 8)...)
		counts(t, n, 20*8-8*(i+1))
	}
	bare(t, n)
}

// P9.1: a way that was full has a place again, once one was taken of it, however
// often.
func TestPlacesAgain(t *testing.T) {
	n := net.New()
	for _, p := range ways() {
		l := several(p, 8)
		sends(t, n, p, l...)
		for i := range 30 {
			s := "again " + strconv.Itoa(i)
			loses(t, n, p, s)
			takes(t, n, p, l[0])
			sends(t, n, p, s)
			l = append(l[1:], s)
		}
		loses(t, n, p, "one too many")
		takes(t, n, p, l[:3]...)
		sends(t, n, p, "x", "y", "z")
		loses(t, n, p, "one too many")
		ends(t, n, p, append(l[3:], "x", "y", "z")...)
	}
	bare(t, n)
}

// P9.1: a full way takes nothing from the others.
func TestFullAlone(t *testing.T) {
	for _, full := range ways() {
		n := net.New()
		sends(t, n, full, several(full, 8)...)
		loses(t, n, full, "x")
		for i, p := range ways() {
			if p == full {
				continue
			}
			sends(t, n, p, "a", "b")
			takes(t, n, p, "a")
			bears(t, n, full, 8)
			loses(t, n, full, strconv.Itoa(i))
		}
		counts(t, n, 8+19)
		ends(t, n, full, several(full, 8)...)
		for _, p := range ways() {
			if p != full {
				ends(t, n, p, "b")
			}
		}
		bare(t, n)
	}
}

// P9.1: no bytes are on their way as others are.
func TestNoBytes(t *testing.T) {
	for _, none := range [][]byte{nil, {}, []byte("text")[:0]} {
		n := net.New()
		p := pair{4, 0}
		for i := range 7 {
			says(t, "Send of no bytes", n.Send(p.from, p.to, none), true)
			counts(t, n, i+1)
		}
		sends(t, n, p, "a")
		says(t, "Send of no bytes as the ninth", n.Send(p.from, p.to, none), false)
		loses(t, n, p, "b")
		bears(t, n, p.back(), 0)
		ends(t, n, p, "", "", "", "", "", "", "", "a")
		bare(t, n)
	}
}

// P9.1: all ways are apart: what is done on one is seen on no other one, nor on
// its way back.
func TestApart(t *testing.T) {
	all := ways()
	for i, p := range all {
		n := net.New()
		for _, q := range all {
			if (way(t, n, p) == way(t, n, q)) != (p == q) {
				t.Fatalf("Ways %v and %v: the same %v", p, q, p != q)
			}
		}
		sends(t, n, p, "a", "b")
		for k, q := range all {
			if k != i {
				empty(t, n, q)
				way(t, n, q).Clear()
				sends(t, n, q, several(q, 2)...)
			}
		}
		empty(t, net.New(), p)
		bears(t, n, p.back(), 2)
		says(t, "Twice", way(t, n, p).Twice(), true)
		says(t, "Turn", way(t, n, p).Turn(), true)
		sends(t, n, p, "c")
		ends(t, n, p, "b", "a", "a", "c")
		sends(t, n, p, "d")
		way(t, n, p).Clear()
		empty(t, n, p)
		for k, q := range all {
			if k != i {
				ends(t, n, q, several(q, 2)...)
			}
		}
		bare(t, n)
	}
}

// P9.1: Way answers the same box each time, whatever was done in between.
func TestSameBox(t *testing.T) {
	n := net.New()
	had := map[pair]*box.Box{}
	for _, p := range ways() {
		had[p] = way(t, n, p)
	}
	same := func() {
		t.Helper()
		for _, p := range ways() {
			if way(t, n, p) != had[p] {
				t.Fatalf("Way %v: another box", p)
			}
		}
	}
	same()
	for _, p := range ways() {
		sends(t, n, p, several(p, 8)...)
		same()
		loses(t, n, p, "x")
		same()
		takes(t, n, p, several(p, 1)...)
		counts(t, n, 7)
		same()
		had[p].Twice()
		had[p].Turn()
		bears(t, n, p, 8)
		had[p].Clear()
		same()
		bare(t, n)
	}
	for _, p := range wrongs() {
		n.Send(p.from, p.to, nil)
	}
	same()
}

// P9.1: what is put in a way's box is on its way, as what is sent.
func TestPutInWay(t *testing.T) {
	for _, p := range ways() {
		n := net.New()
		had := way(t, n, p)
		says(t, "Put", had.Put([]byte("a")), true)
		counts(t, n, 1)
		sends(t, n, p, "b")
		says(t, "Put", way(t, n, p).Put([]byte("c")), true)
		sends(t, n, p, "d", "e", "f", "g")
		says(t, "Put", had.Put([]byte("h")), true)
		says(t, "Put in a full way", had.Put([]byte("i")), false)
		loses(t, n, p, "i")
		counts(t, n, 8)
		ends(t, n, p, "a", "b", "c", "d", "e", "f", "g", "h")
		bare(t, n)
	}
}

// P9.1: Len is how many are on all ways, behind each call of a way's box too.
func TestLen(t *testing.T) {
	n := net.New()
	want := 0
	for i, p := range ways() {
		k := 1 + i%7
		sends(t, n, p, several(p, k)...)
		want += k
		counts(t, n, want)
	}
	for i, p := range ways() {
		says(t, "Twice", way(t, n, p).Twice(), true)
		want++
		counts(t, n, want)
		says(t, "Turn", way(t, n, p).Turn(), true)
		counts(t, n, want)
		if i%7 < 3 {
			way(t, n, p).Take()
			want--
			counts(t, n, want)
		}
	}
	for _, p := range ways() {
		want -= way(t, n, p).Len()
		way(t, n, p).Clear()
		counts(t, n, want)
	}
	if want != 0 {
		t.Fatal(want)
	}
	bare(t, n)
}

// P9.1: two networks are apart.
func TestTwoNetworks(t *testing.T) {
	a, b := net.New(), net.New()
	if a == b {
		t.Fatal("New: the same network twice")
	}
	for _, p := range ways() {
		for _, q := range ways() {
			if way(t, a, p) == way(t, b, q) {
				t.Fatalf("Way %v of one, and %v of another one: the same", p, q)
			}
		}
		sends(t, a, p, several(p, 8)...)
		loses(t, a, p, "x")
		empty(t, b, p)
		counts(t, b, 0)
	}
	for _, p := range ways() {
		sends(t, b, p, "b")
	}
	counts(t, a, 160)
	counts(t, b, 20)
	for _, p := range ways() {
		way(t, b, p).Clear()
		bears(t, a, p, 8)
	}
	bare(t, b)
	for _, p := range ways() {
		ends(t, a, p, several(p, 8)...)
	}
	bare(t, a)
	bare(t, net.New())
}

// P9.1: all bytes there are, and many of them, come as they were sent.
func TestBytes(t *testing.T) {
	var every []byte
	for i := range 256 {
		every = append(every, byte(i))
	}
	n := net.New()
	for i, size := range []int{1, 2, 255, 256, 257, api.MaxBytes, api.MaxBytes + 1, 1 << 16, 1 << 20} {
		x := bytes.Repeat(every, size/256+1)[:size]
		y := slices.Clone(x)
		slices.Reverse(y)
		p := ways()[2*i]
		sends(t, n, p, string(x), "", string(y))
		sends(t, n, p.back(), string(y))
		ends(t, n, p, string(x), "", string(y))
		ends(t, n, p.back(), string(y))
	}
	bare(t, n)
}

// P9.1: Send changes nothing of what it is handed, nor of what stands behind it,
// nor does what is done with the bytes that come.
func TestSendLeaves(t *testing.T) {
	x := []byte("abcdef")
	n := net.New()
	says(t, "Send", n.Send(0, 1, x[1:3]), true)
	says(t, "Send", n.Send(1, 0, x[:2]), true)
	says(t, "Send to itself", n.Send(1, 1, x[:2]), false)
	says(t, "Send past the last", n.Send(1, 5, x[:2]), false)
	says(t, "Twice", n.Way(0, 1).Twice(), true)
	for range 6 {
		sends(t, n, pair{0, 1}, "")
	}
	says(t, "Send on a full way", n.Send(0, 1, x[2:4]), false)
	for _, p := range ways() {
		for way(t, n, p).Len() > 0 {
			y, _ := way(t, n, p).Take()
			_ = append(y, "zz"...)
			for i := range y {
				y[i] = 'y'
			}
		}
	}
	if string(x) != "abcdef" {
		t.Fatalf("%q", x)
	}
}

// P9.1: bytes that are changed behind their Send change nothing on its way.
func TestChangedBehindSend(t *testing.T) {
	x := []byte("abc")
	n := net.New()
	for i, p := range ways() {
		x[0] = byte('a' + i)
		says(t, "Send", n.Send(p.from, p.to, x), true)
		says(t, "Send of some of them", n.Send(p.from, p.to, x[:1]), true)
	}
	clear(x)
	_ = append(x[:0], "!!!"...)
	for i, p := range ways() {
		first := string(rune('a' + i))
		ends(t, n, p, first+"bc", first)
	}
}

// P9.1: bytes that came, and are changed then, change nothing that is on its
// way, nor what else came.
func TestChangedBehindTake(t *testing.T) {
	x := []byte("abc")
	n := net.New()
	for _, p := range ways() {
		says(t, "Send", n.Send(p.from, p.to, x), true)
		says(t, "Twice", n.Way(p.from, p.to).Twice(), true)
	}
	var l [][]byte
	for _, p := range ways() {
		for range 2 {
			y, ok := way(t, n, p).Take()
			if !ok || string(y) != "abc" {
				t.Fatalf("Take of the way %v: %q, %v", p, y, ok)
			}
			for i := range y {
				y[i] = byte('0' + len(l))
			}
			_ = append(y, "!!!!!!!!"...)
			l = append(l, y)
		}
	}
	for i, y := range l {
		if want := bytes.Repeat([]byte{byte('0' + i)}, 3); !bytes.Equal(y, want) {
			t.Fatalf("behind all: %q, not %q", y, want)
		}
	}
}

// A model is what a network should be: the texts on each way, the first one
// first.
type model map[pair][]string

// all answers how many are on their way in all.
func (m model) all() int {
	all := 0
	for _, l := range m {
		all += len(l)
	}
	return all
}

// send has a text be on its way; false: it is lost.
func (m model) send(p pair, s string) bool {
	if !slices.Contains(ways(), p) || len(m[p]) == 8 {
		return false
	}
	m[p] = append(slices.Clone(m[p]), s)
	return true
}

// take answers the first text of a way, which is on it no more.
func (m model) take(p pair) (string, bool) {
	if len(m[p]) == 0 {
		return "", false
	}
	s := m[p][0]
	m[p] = m[p][1:]
	return s, true
}

// call has both do one call at random, and holds the answers against one
// another.
func call(t *testing.T, r *rand.Rand, n *net.Net, m model, step int) {
	t.Helper()
	p := pair{r.Intn(7) - 1, r.Intn(7) - 1}
	s := strconv.Itoa(step)
	kind := r.Intn(12)
	if b := n.Way(p.from, p.to); kind < 7 || b == nil {
		says(t, "Send "+p.String(), n.Send(p.from, p.to, []byte(s)), m.send(p, s))
	} else if kind < 9 {
		x, ok := b.Take()
		want, is := m.take(p)
		if ok != is || string(x) != want {
			t.Fatalf("step %d: Take of the way %v: %q, %v, not %q, %v", step, p, x, ok, want, is)
		}
	} else if kind == 9 {
		says(t, "Twice "+p.String(), b.Twice(), len(m[p]) > 0 && m.send(p, m[p][0]))
	} else if kind == 10 {
		first, is := m.take(p)
		says(t, "Turn "+p.String(), b.Turn(), is && m.send(p, first))
	} else if r.Intn(20) == 0 {
		b.Clear()
		m[p] = nil
	}
	counts(t, n, m.all())
}

// P9.1: what a network answers at any calls is what the words say.
func TestAnyCalls(t *testing.T) {
	for seed := range 40 {
		r := rand.New(rand.NewSource(int64(seed)))
		n, m := net.New(), model{}
		for step := range 1000 {
			call(t, r, n, m, step)
		}
		for _, p := range ways() {
			ends(t, n, p, m[p]...)
		}
		bare(t, n)
	}
}

// P9.1: what a network answers hangs on its own calls alone: two that had the
// same ones are the same.
func TestSameCalls(t *testing.T) {
	a, b := net.New(), net.New()
	ra, rb := rand.New(rand.NewSource(7)), rand.New(rand.NewSource(7))
	ma, mb := model{}, model{}
	for step := range 2000 {
		call(t, ra, a, ma, step)
	}
	for step := range 2000 {
		call(t, rb, b, mb, step)
		counts(t, a, ma.all())
	}
	for _, p := range ways() {
		ends(t, a, p, mb[p]...)
		ends(t, b, p, ma[p]...)
	}
}

// P0: every call ends and none panics, at all arguments.
func TestEndsAtAll(t *testing.T) {
	n := net.New()
	for _, from := range numbers {
		for _, to := range numbers {
			for range 10 {
				n.Send(from, to, nil)
				n.Send(from, to, []byte{})
				n.Send(from, to, []byte("abc"))
			}
			n.Way(from, to)
			n.Len()
		}
	}
	counts(t, n, 160)
}
