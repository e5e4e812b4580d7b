package link_test

import (
	"bytes"
	"hash/crc32"
	"math"
	"math/rand"
	"slices"
	"strconv"
	"strings"
	"testing"

	"legatee/api"
	"legatee/link"
	"legatee/net"
	"legatee/sum"
)

// A pair is two numbers that may be machines.
type pair struct{ from, to int }

// back answers the pair the other way round.
func (p pair) back() pair { return pair{p.to, p.from} }

// String tells the pair.
func (p pair) String() string { return strconv.Itoa(p.from) + " to " + strconv.Itoa(p.to) }

// outs are numbers that one byte has no room for.
var outs = []int{
	-1, -2, -255, -256, -257, -1 << 16, -1 << 31, -1<<31 - 1, -1 << 32, math.MinInt + 1, math.MinInt,
	256, 257, 258, 260, 511, 512, 513, 1 << 16, 1<<16 + 1, 1<<31 - 1, 1 << 31, 1 << 32, 1<<32 + 1, math.MaxInt - 1, math.MaxInt,
}

// ins are numbers that one byte has room for, machines among them.
var ins = []int{0, 1, 2, 3, 4, 5, 6, 7, 8, 63, 64, 100, 127, 128, 129, 200, 254, 255}

// numbers are both.
var numbers = slices.Concat(ins, outs)

// ways answers all pairs of two machines.
func ways() []pair {
	var l []pair
	for from := range 5 {
		for to := range 5 {
			if from != to {
				l = append(l, pair{from, to})
			}
		}
	}
	return l
}

// wrongs answers pairs that aren't two machines.
func wrongs() []pair {
	var l []pair
	for _, from := range numbers {
		for _, to := range numbers {
			if p := (pair{from, to}); !slices.Contains(ways(), p) {
				l = append(l, p)
			}
		}
	}
	return l
}

// framed answers the frame of b as the words say, by another package's sum.
func framed(p pair, b []byte) []byte {
	f := slices.Concat([]byte{byte(p.from), byte(p.to)}, b)
	s := crc32.ChecksumIEEE(f)
	return append(f, byte(s), byte(s>>8), byte(s>>16), byte(s>>24))
}

// frames has Frame answer want.
func frames(t *testing.T, p pair, b, want []byte) {
	t.Helper()
	if f := link.Frame(p.from, p.to, b); !bytes.Equal(f, want) {
		t.Fatalf("Frame %v of % X: % X, not % X", p, b, f, want)
	}
}

// opens has Open answer want.
func opens(t *testing.T, p pair, f, want []byte) {
	t.Helper()
	if b, ok := link.Open(p.from, p.to, f); !ok || !bytes.Equal(b, want) {
		t.Fatalf("Open %v of % X: % X, %v, not % X", p, f, b, ok, want)
	}
}

// none has Open answer that f is no frame.
func none(t *testing.T, p pair, f []byte) {
	t.Helper()
	if b, ok := link.Open(p.from, p.to, f); ok || len(b) != 0 {
		t.Fatalf("Open %v of % X: % X, %v", p, f, b, ok)
	}
}

// says has a call have answered want.
func says(t *testing.T, name string, got, want bool) {
	t.Helper()
	if got != want {
		t.Fatalf("%s: %v, not %v", name, got, want)
	}
}

// counts has so many be on their way in all.
func counts(t *testing.T, n *net.Net, want int) {
	t.Helper()
	if all := n.Len(); all != want {
		t.Fatalf("Len: %d, not %d", all, want)
	}
}

// sends has the network take those texts in frames, on one way.
func sends(t *testing.T, n *net.Net, p pair, texts ...string) {
	t.Helper()
	for _, s := range texts {
		all, here := n.Len(), n.Way(p.from, p.to).Len()
		if !link.Send(n, p.from, p.to, []byte(s)) {
			t.Fatalf("Send %v of %q: false", p, s)
		}
		counts(t, n, all+1)
		if n.Way(p.from, p.to).Len() != here+1 {
			t.Fatalf("Send %v of %q: went elsewhere", p, s)
		}
	}
}

// loses has the network take none of those texts, and be as it was.
func loses(t *testing.T, n *net.Net, p pair, texts ...string) {
	t.Helper()
	all := n.Len()
	for _, s := range texts {
		if link.Send(n, p.from, p.to, []byte(s)) {
			t.Fatalf("Send %v of %d bytes: true", p, len(s))
		}
		counts(t, n, all)
	}
}

// takes has those texts come by one way, in their order.
func takes(t *testing.T, n *net.Net, p pair, texts ...string) {
	t.Helper()
	for i, s := range texts {
		all, here := n.Len(), n.Way(p.from, p.to).Len()
		b, ok := link.Take(n, p.from, p.to)
		if !ok || string(b) != s {
			t.Fatalf("Take %d %v: %q, %v, not %q", i+1, p, b, ok, s)
		}
		counts(t, n, all-1)
		if n.Way(p.from, p.to).Len() != here-1 {
			t.Fatalf("Take %d %v: came from elsewhere", i+1, p)
		}
	}
}

// passes has something that is no frame be taken off one way.
func passes(t *testing.T, n *net.Net, p pair) {
	t.Helper()
	all, here := n.Len(), n.Way(p.from, p.to).Len()
	if b, ok := link.Take(n, p.from, p.to); ok || len(b) != 0 {
		t.Fatalf("Take %v of no frame: %q, %v", p, b, ok)
	}
	counts(t, n, all-1)
	if n.Way(p.from, p.to).Len() != here-1 {
		t.Fatalf("Take %v of no frame: took none off there", p)
	}
}

// empty has nothing come by one way, and the network be as it was.
func empty(t *testing.T, n *net.Net, p pair) {
	t.Helper()
	all := n.Len()
	if b, ok := link.Take(n, p.from, p.to); ok || len(b) != 0 {
		t.Fatalf("Take %v of nothing: %q, %v", p, b, ok)
	}
	counts(t, n, all)
}

// ends has those texts be on one way, and nothing else there.
func ends(t *testing.T, n *net.Net, p pair, texts ...string) {
	t.Helper()
	takes(t, n, p, texts...)
	empty(t, n, p)
}

// lays has the network bear bytes as they are, on one way.
func lays(t *testing.T, n *net.Net, p pair, l ...[]byte) {
	t.Helper()
	for _, x := range l {
		if !n.Send(p.from, p.to, x) {
			t.Fatalf("lay %v of % X: no place", p, x)
		}
	}
}

// several answers k texts for one way, no two of any ways the same.
func several(p pair, k int) []string {
	var l []string
	for i := range k {
		l = append(l, p.String()+", text "+strconv.Itoa(i))
	}
	return l
}

// long answers so many bytes, of all kinds.
func long(n int) []byte {
	x := make([]byte, n)
	for i := range x {
		x[i] = byte(i*7 + i>>8)
	}
	return x
}

// P10.1: the chapter's example.
func TestExample(t *testing.T) {
	f := link.Frame(0, 1, []byte("hi"))
	opens(t, pair{0, 1}, f, []byte("hi"))
	none(t, pair{1, 0}, f)
}

// P10.1: a frame's bytes are both numbers, the bytes, and the sum of all that.
func TestFrame(t *testing.T) {
	for _, c := range []struct {
		p       pair
		b, want []byte
	}{
		{pair{0, 1}, []byte("hi"), []byte{0x00, 0x01, 0x68, 0x69, 0x78, 0x8D, 0xCC, 0xB9}},
		{pair{1, 0}, []byte("hi"), []byte{0x01, 0x00, 0x68, 0x69, 0x2A, 0x80, 0xB2, 0x00}},
		{pair{3, 4}, nil, []byte{0x03, 0x04, 0x25, 0x85, 0x99, 0x6D}},
		{pair{3, 4}, []byte{}, []byte{0x03, 0x04, 0x25, 0x85, 0x99, 0x6D}},
		{pair{0, 0}, nil, []byte{0x00, 0x00, 0xFF, 0x12, 0xD9, 0x41}},
		{pair{255, 255}, nil, []byte{0xFF, 0xFF, 0x00, 0x00, 0xFF, 0xFF}},
		{pair{0, 255}, []byte{0}, []byte{0x00, 0xFF, 0x00, 0x60, 0x24, 0x65, 0x6C}},
		{pair{255, 0}, []byte{255}, []byte{0xFF, 0x00, 0xFF, 0x72, 0x02, 0xDB, 0x6C}},
		{pair{4, 2}, []byte("123456789"), []byte{0x04, 0x02, 0x31, 0x32, 0x33, 0x34, 0x35, 0x36, 0x37, 0x38, 0x39, 0xDB, 0x3F, 0x56, 0xF2}},
		{pair{2, 2}, []byte("a"), []byte{0x02, 0x02, 0x61, 0x30, 0x3E, 0x46, 0xF4}},
		{pair{200, 100}, []byte{0, 0, 0}, []byte{0xC8, 0x64, 0x00, 0x00, 0x00, 0x53, 0x34, 0x03, 0xAB}},
	} {
		frames(t, c.p, c.b, c.want)
		opens(t, c.p, c.want, c.b)
	}
}

// P10.1: Frame and Open between all numbers of one byte, for bytes of all
// lengths, many of them past what Send takes.
func TestFrameAndOpen(t *testing.T) {
	for from := range 256 {
		for to := range 256 {
			b := long(from % 5)
			f := framed(pair{from, to}, b)
			frames(t, pair{from, to}, b, f)
			opens(t, pair{from, to}, f, b)
		}
	}
	for _, n := range []int{0, 1, 2, 3, 4, 5, 6, 7, 59, 255, 256, 257, api.MaxBytes - 1, api.MaxBytes, api.MaxBytes + 1, 1 << 16, 1 << 20} {
		b := long(n)
		for _, p := range []pair{{0, 1}, {4, 3}, {2, 2}, {0, 0}, {255, 7}} {
			f := framed(p, b)
			frames(t, p, b, f)
			opens(t, p, f, b)
			frames(t, p, f, framed(p, f))
			opens(t, p, framed(p, f), f)
		}
	}
}

// P10.1: a frame of others is none, nor one the other way round.
func TestOpenOfOthers(t *testing.T) {
	for _, p := range []pair{{0, 1}, {1, 0}, {3, 4}, {2, 2}, {0, 0}, {255, 255}, {0, 255}, {255, 0}, {128, 127}} {
		for _, b := range [][]byte{nil, {byte(p.to)}, {byte(p.from), byte(p.to)}, long(100)} {
			f := framed(p, b)
			for other := range 256 {
				for _, q := range []pair{{p.from, other}, {other, p.to}, {other, other}, {p.to, other}, {other, p.from}} {
					if q != p {
						none(t, q, f)
					}
				}
			}
			opens(t, p, f, b)
		}
	}
}

// P10.1: numbers that one byte has no room for have no frame, nor is one of
// others taken for theirs.
func TestNoSuchNumbers(t *testing.T) {
	for _, out := range outs {
		for _, in := range numbers {
			for _, p := range []pair{{out, in}, {in, out}} {
				frames(t, p, []byte("hi"), nil)
				frames(t, p, nil, nil)
				none(t, p, nil)
				none(t, p, framed(p, nil))
				none(t, p, framed(p, []byte("hi")))
			}
		}
	}
}

// P10.1: a frame of which a byte was turned is none, in whatever of its bits.
func TestTurned(t *testing.T) {
	for _, b := range [][]byte{nil, {0}, []byte("hi"), long(20)} {
		for _, p := range []pair{{0, 1}, {4, 3}, {0, 0}, {255, 255}} {
			f := link.Frame(p.from, p.to, b)
			for i := range f {
				for x := 1; x < 256; x++ {
					f[i] ^= byte(x)
					none(t, p, f)
					none(t, p.back(), f)
					if i < 2 {
						none(t, pair{int(f[0]), int(f[1])}, f)
					}
					f[i] ^= byte(x)
				}
			}
			opens(t, p, f, b)
		}
	}
}

// P10.1: a frame that is cut short is none, nor one with bytes behind or ahead.
func TestCut(t *testing.T) {
	for _, b := range [][]byte{nil, {0}, {0, 1}, {0, 1, 0, 1, 0, 1}, []byte("hi"), long(300)} {
		p := pair{0, 1}
		f := link.Frame(p.from, p.to, b)
		for cut := range len(f) {
			none(t, p, f[:cut])
			if cut > 0 {
				none(t, p, f[cut:])
			}
		}
		for x := range 256 {
			none(t, p, append(slices.Clone(f), byte(x)))
			none(t, p, append([]byte{byte(x)}, f...))
		}
		none(t, p, append(slices.Clone(f), 0, 0, 0, 0))
		none(t, p, slices.Concat(f, f))
		opens(t, p, f, b)
	}
}

// P10.1: bytes that are too few for a frame are none, even with their right sum
// behind; nor are bytes whose sum is of others.
func TestTooFew(t *testing.T) {
	all := []pair{{0, 0}, {0, 1}, {1, 0}, {4, 3}, {255, 255}, {-1, -1}, {math.MinInt, math.MaxInt}}
	for _, p := range all {
		none(t, p, nil)
		none(t, p, []byte{})
		for n := range 6 {
			for _, x := range []int{0, 1, 3, 4, 255} {
				none(t, p, bytes.Repeat([]byte{byte(x)}, n))
			}
		}
		none(t, p, sum.Put(nil))
		for x := range 256 {
			none(t, p, sum.Put([]byte{byte(x)}))
		}
	}
	for _, p := range all[:5] {
		x := []byte{byte(p.from), byte(p.to), 'h', 'i'}
		opens(t, p, sum.Put(x), []byte("hi"))
		none(t, p, x)
		none(t, p, append(x, 0, 0, 0, 0))
		none(t, p, append(x[:4:4], sum.Put(x[2:])[2:]...))
		none(t, p, append(x[:4:4], sum.Put(x[1:])[3:]...))
		s := sum.Of(x)
		none(t, p, append(x[:4:4], byte(s>>24), byte(s>>16), byte(s>>8), byte(s)))
		none(t, p, append(x[:4:4], byte(s), byte(s>>8), byte(s>>16)))
	}
}

// P10.1: what is sent comes in its order, by each way apart.
func TestSendAndTake(t *testing.T) {
	n := net.New()
	sends(t, n, pair{0, 1}, "a", "b")
	sends(t, n, pair{1, 0}, "c")
	sends(t, n, pair{0, 4}, "d", "e")
	sends(t, n, pair{0, 1}, "f", "a")
	sends(t, n, pair{3, 2}, "g")
	counts(t, n, 8)
	empty(t, n, pair{2, 3})
	takes(t, n, pair{0, 1}, "a")
	sends(t, n, pair{0, 1}, "h")
	ends(t, n, pair{3, 2}, "g")
	takes(t, n, pair{0, 4}, "d")
	ends(t, n, pair{0, 1}, "b", "f", "a", "h")
	sends(t, n, pair{0, 4}, "i")
	ends(t, n, pair{1, 0}, "c")
	ends(t, n, pair{0, 4}, "e", "i")
	counts(t, n, 0)
}

// P10.1: what Send has on its way is the Frame; what Take takes off is whatever
// the way bears.
func TestOnTheWay(t *testing.T) {
	n := net.New()
	for i, p := range ways() {
		b := long(i)
		says(t, "Send", link.Send(n, p.from, p.to, b), true)
		f, ok := n.Way(p.from, p.to).Take()
		if want := framed(p, b); !ok || !bytes.Equal(f, want) {
			t.Fatalf("on the way %v: % X, not % X", p, f, want)
		}
		lays(t, n, p, f, framed(p, nil))
		ends(t, n, p, string(b), "")
	}
	counts(t, n, 0)
}

// P10.1: what is no frame is taken off, and is none; what comes behind it still
// comes.
func TestTakeOfNoFrame(t *testing.T) {
	n := net.New()
	for _, p := range ways() {
		turned := framed(p, []byte("hi"))
		turned[2] ^= 1
		for _, x := range [][]byte{
			nil, {}, {0}, []byte("junk"), []byte("more junk"), sum.Put(nil), sum.Put([]byte{byte(p.from)}),
			framed(p, []byte("hi"))[1:], framed(p, []byte("hi"))[:7], append(framed(p, []byte("hi")), 0),
			framed(p.back(), []byte("hi")), framed(pair{p.from, p.from}, nil), framed(pair{p.to, p.to}, nil),
			framed(pair{p.from, 5}, nil), framed(pair{255, p.to}, nil), turned, make([]byte, 6), long(4000),
		} {
			sends(t, n, p, "ahead")
			lays(t, n, p, x)
			sends(t, n, p, "behind")
			lays(t, n, p, x, x)
			takes(t, n, p, "ahead")
			passes(t, n, p)
			takes(t, n, p, "behind")
			passes(t, n, p)
			passes(t, n, p)
			empty(t, n, p)
		}
	}
	counts(t, n, 0)
}

// P10.1: a frame that stands on another way is none there.
func TestTakeOfOthersFrames(t *testing.T) {
	for _, p := range ways() {
		n := net.New()
		for _, q := range ways() {
			lays(t, n, q, framed(p, []byte("stray")))
			sends(t, n, q, "own")
		}
		for _, q := range ways() {
			if q != p {
				passes(t, n, q)
				ends(t, n, q, "own")
			}
		}
		ends(t, n, p, "stray", "own")
		counts(t, n, 0)
	}
}

// P10.1: what a way doubles or turns round comes as often, and in that order.
func TestTwiceAndTurn(t *testing.T) {
	for _, p := range ways() {
		n := net.New()
		sends(t, n, p, "a", "b", "c")
		way := n.Way(p.from, p.to)
		says(t, "Twice", way.Twice(), true)
		says(t, "Turn", way.Turn(), true)
		ends(t, n, p, "b", "c", "a", "a")
		sends(t, n, p, "d", "e")
		way.Clear()
		empty(t, n, p)
	}
}

// P10.1: a way that is full loses what is sent there; the others don't.
func TestFull(t *testing.T) {
	n := net.New()
	for i, p := range ways() {
		sends(t, n, p, several(p, 8)...)
		loses(t, n, p, "the ninth", "", string(long(api.MaxBytes)))
		says(t, "Send of nil", link.Send(n, p.from, p.to, nil), false)
		counts(t, n, 8*i+8)
	}
	for _, p := range ways() {
		loses(t, n, p, "the ninth")
		takes(t, n, p, several(p, 8)[:2]...)
		sends(t, n, p, "x", "y")
		loses(t, n, p, "z")
	}
	for _, p := range ways() {
		ends(t, n, p, append(several(p, 8)[2:], "x", "y")...)
	}
	counts(t, n, 0)
}

// P10.1: what is no frame takes a place too.
func TestFullOfNoFrames(t *testing.T) {
	n, p := net.New(), pair{1, 4}
	for range 8 {
		lays(t, n, p, []byte("junk"))
	}
	loses(t, n, p, "a")
	passes(t, n, p)
	sends(t, n, p, "b")
	loses(t, n, p, "c")
	for range 7 {
		passes(t, n, p)
	}
	ends(t, n, p, "b")
}

// P10.1: no bytes are sent, and come, as others are.
func TestNoBytes(t *testing.T) {
	for _, b := range [][]byte{nil, {}, []byte("text")[:0]} {
		n, p := net.New(), pair{4, 0}
		for i := range 8 {
			says(t, "Send of no bytes", link.Send(n, p.from, p.to, b), true)
			counts(t, n, i+1)
		}
		says(t, "Send of no bytes as the ninth", link.Send(n, p.from, p.to, b), false)
		empty(t, n, p.back())
		ends(t, n, p, "", "", "", "", "", "", "", "")
		counts(t, n, 0)
	}
}

// P10.1: Send takes MaxBytes, and no more; Take has no such bound.
func TestLong(t *testing.T) {
	n := net.New()
	for _, p := range ways() {
		for _, size := range []int{api.MaxBytes - 6, api.MaxBytes - 1, api.MaxBytes} {
			sends(t, n, p, string(long(size)))
		}
		for _, size := range []int{api.MaxBytes + 1, api.MaxBytes + 2, 2 * api.MaxBytes, 1 << 16, 1 << 20} {
			loses(t, n, p, string(long(size)))
		}
		lays(t, n, p, framed(p, long(api.MaxBytes+1)), framed(p, long(1<<16)))
		ends(t, n, p, string(long(api.MaxBytes-6)), string(long(api.MaxBytes-1)), string(long(api.MaxBytes)),
			string(long(api.MaxBytes+1)), string(long(1<<16)))
		loses(t, n, pair{p.from, p.from}, string(long(api.MaxBytes+1)))
		loses(t, n, pair{p.from, 5}, string(long(api.MaxBytes+1)))
	}
	counts(t, n, 0)
}

// P10.1: from and to the same machine, and numbers that are no machines: what is
// sent is lost, and nothing is taken.
func TestNoSuchWay(t *testing.T) {
	n := net.New()
	for _, each := range []int{0, 1, 8} {
		for _, p := range ways() {
			sends(t, n, p, several(p, each)[n.Way(p.from, p.to).Len():]...)
		}
		for _, p := range wrongs() {
			loses(t, n, p, "x", "")
			says(t, "Send of nil", link.Send(n, p.from, p.to, nil), false)
			empty(t, n, p)
		}
		counts(t, n, 20*each)
	}
	for _, p := range ways() {
		ends(t, n, p, several(p, 8)...)
	}
	counts(t, n, 0)
}

// P10.1: what there is no network for is lost, and none is on its way there; so
// it is with one that has no ways.
func TestNoNetwork(t *testing.T) {
	for _, n := range []*net.Net{nil, new(net.Net)} {
		for _, from := range numbers {
			for _, to := range numbers {
				says(t, "Send without a network", link.Send(n, from, to, []byte("x")), false)
				says(t, "Send of too many without a network", link.Send(n, from, to, long(api.MaxBytes+1)), false)
				if b, ok := link.Take(n, from, to); ok || len(b) != 0 {
					t.Fatalf("Take without a network: %q, %v", b, ok)
				}
			}
		}
	}
}

// P10.1: two networks are apart.
func TestTwoNetworks(t *testing.T) {
	a, b := net.New(), net.New()
	for _, p := range ways() {
		sends(t, a, p, several(p, 8)...)
		loses(t, a, p, "x")
		empty(t, b, p)
		sends(t, b, p, "b")
	}
	counts(t, b, 20)
	for _, p := range ways() {
		ends(t, a, p, several(p, 8)...)
		ends(t, b, p, "b")
	}
}

// spoil changes all bytes of x, and lays some behind it.
func spoil(x []byte) {
	_ = append(x, "!!!!!!!!!!!!"...)
	for i := range x {
		x[i] ^= 0x55
	}
}

// P10.1: no call changes what it is handed, nor what stands behind it.
func TestLeaves(t *testing.T) {
	x := []byte("some bytes, and some others behind them")
	had := string(x)
	n := net.New()
	link.Frame(0, 1, x[5:10])
	link.Frame(256, 1, x[5:10])
	link.Frame(0, 1, x[:0])
	for _, p := range []pair{{0, 1}, {1, 1}, {0, 5}} {
		link.Send(n, p.from, p.to, x[5:10])
		link.Open(p.from, p.to, x[5:16])
		link.Open(p.from, p.to, x[:3])
	}
	f := append(framed(pair{0, 1}, x[5:10]), "behind"...)
	was := string(f)
	b, ok := link.Open(0, 1, f[:len(f)-6])
	if !ok || string(b) != "bytes" || string(f) != was {
		t.Fatalf("Open: %q, %v; %q", b, ok, f)
	}
	spoil(b)
	b, ok = link.Take(n, 0, 1)
	if !ok || string(b) != "bytes" {
		t.Fatalf("Take: %q, %v", b, ok)
	}
	spoil(b)
	if string(x) != had || string(f) != was {
		t.Fatalf("%q, %q", x, f)
	}
}

// P10.1: bytes that are changed behind a Frame, an Open or a Send change nothing
// that was answered, or is on its way.
func TestChangedBehind(t *testing.T) {
	x := []byte("hi, you")
	n := net.New()
	f := link.Frame(0, 1, x)
	says(t, "Send", link.Send(n, 0, 1, x), true)
	says(t, "Send", link.Send(n, 0, 1, x[:2]), true)
	says(t, "Twice", n.Way(0, 1).Twice(), true)
	clear(x)
	opens(t, pair{0, 1}, f, []byte("hi, you"))
	b, ok := link.Open(0, 1, f)
	clear(f)
	if !ok || string(b) != "hi, you" {
		t.Fatalf("Open: %q, %v", b, ok)
	}
	ends(t, n, pair{0, 1}, "hi, you", "hi", "hi, you")
}

// P10.1: what was answered, and is changed then, changes nothing else that was
// answered or is on its way.
func TestChangedAnswers(t *testing.T) {
	p := pair{3, 0}
	want := framed(p, []byte("abc"))
	f, g := link.Frame(3, 0, []byte("abc")), link.Frame(3, 0, []byte("abc"))
	spoil(g)
	if !bytes.Equal(f, want) {
		t.Fatalf("Frame, behind another one: % X", f)
	}
	b, _ := link.Open(3, 0, f)
	c, _ := link.Open(3, 0, f)
	spoil(c)
	if string(b) != "abc" || !bytes.Equal(f, want) {
		t.Fatalf("Open, behind another one: %q; % X", b, f)
	}
	n := net.New()
	lays(t, n, p, f, f)
	sends(t, n, p, "abc", "def")
	n.Way(3, 0).Twice()
	var l [][]byte
	for _, s := range []string{"abc", "abc", "abc", "def", "abc"} {
		b, ok := link.Take(n, 3, 0)
		if !ok || string(b) != s {
			t.Fatalf("Take: %q, %v, not %q", b, ok, s)
		}
		for i := range b {
			b[i] = byte('0' + len(l))
		}
		_ = append(b, "!!!!!!!!"...)
		l = append(l, b)
	}
	for i, b := range l {
		if string(b) != strings.Repeat(strconv.Itoa(i), 3) {
			t.Fatalf("Take %d, behind others: %q", i, b)
		}
	}
	if !bytes.Equal(f, want) {
		t.Fatalf("Frame, behind Take: % X", f)
	}
}

// A model is what a network should bear: on each way what it has, the first one
// first.
type model map[pair][]thing

// A thing is on its way: a text in a frame of these two, or no frame.
type thing struct {
	text string
	of   pair
	sent bool
}

// add has something be on its way last; false: it is lost.
func (m model) add(p pair, x thing) bool {
	if !slices.Contains(ways(), p) || len(m[p]) == 8 {
		return false
	}
	m[p] = append(slices.Clone(m[p]), x)
	return true
}

// take answers the text that comes next.
func (m model) take(p pair) (string, bool) {
	if len(m[p]) == 0 {
		return "", false
	}
	x := m[p][0]
	m[p] = m[p][1:]
	if !x.sent || x.of != p {
		return "", false
	}
	return x.text, true
}

// all answers how many are on their way in all.
func (m model) all() int {
	all := 0
	for _, l := range m {
		all += len(l)
	}
	return all
}

// spoiled answers a frame with one bit turned.
func spoiled(r *rand.Rand, p pair, s string) []byte {
	f := link.Frame(p.from&255, p.to&255, []byte(s))
	f[r.Intn(len(f))] ^= 1 << r.Intn(8)
	return f
}

// call has both do one call at random, and holds the answers against one
// another.
func call(t *testing.T, r *rand.Rand, n *net.Net, m model, step int) {
	t.Helper()
	p := pair{r.Intn(7) - 1, r.Intn(7) - 1}
	s := strings.Repeat(strconv.Itoa(step), r.Intn(4))
	switch r.Intn(10) {
	case 0, 1, 2, 3:
		says(t, "Send "+p.String(), link.Send(n, p.from, p.to, []byte(s)), m.add(p, thing{s, p, true}))
	case 4:
		s = strings.Repeat("x", api.MaxBytes+r.Intn(3))
		says(t, "Send of a long one "+p.String(), link.Send(n, p.from, p.to, []byte(s)), len(s) <= 3000 && m.add(p, thing{s, p, true}))
	case 5:
		says(t, "Send of a turned one "+p.String(), n.Send(p.from, p.to, spoiled(r, p, s)), m.add(p, thing{}))
	case 6:
		q := pair{r.Intn(5), r.Intn(5)}
		says(t, "Send of a stray one "+p.String(), n.Send(p.from, p.to, link.Frame(q.from, q.to, []byte(s))), m.add(p, thing{s, q, true}))
	default:
		b, ok := link.Take(n, p.from, p.to)
		want, is := m.take(p)
		if ok != is || string(b) != want {
			t.Fatalf("step %d: Take %v: %q, %v, not %q, %v", step, p, b, ok, want, is)
		}
	}
	counts(t, n, m.all())
}

// P10.1: what is answered at any calls is what the words say.
func TestAnyCalls(t *testing.T) {
	for seed := range 30 {
		r := rand.New(rand.NewSource(int64(seed)))
		n, m := net.New(), model{}
		for step := range 1500 {
			call(t, r, n, m, step)
		}
		for _, p := range ways() {
			for len(m[p]) > 0 {
				b, ok := link.Take(n, p.from, p.to)
				if want, is := m.take(p); ok != is || string(b) != want {
					t.Fatalf("Take %v: %q, %v, not %q, %v", p, b, ok, want, is)
				}
			}
			empty(t, n, p)
		}
		counts(t, n, 0)
	}
}

// P10.1: of any bytes, Open answers those alone whose Frame they are.
func TestOpenOfAny(t *testing.T) {
	r := rand.New(rand.NewSource(3))
	found := 0
	for range 50000 {
		p := pair{r.Intn(3), r.Intn(3)}
		x := make([]byte, r.Intn(12))
		for i := range x {
			x[i] = byte(r.Intn(3))
		}
		if r.Intn(2) == 0 {
			x = sum.Put(x)
		}
		b, ok := link.Open(p.from, p.to, x)
		if is := len(x) >= 6 && bytes.Equal(framed(p, x[2:max(2, len(x)-4)]), x); ok != is {
			t.Fatalf("Open %v of % X: %v, not %v", p, x, ok, is)
		}
		if ok {
			found++
			frames(t, p, b, x)
		} else if len(b) != 0 {
			t.Fatalf("Open %v of % X: % X beside false", p, x, b)
		}
	}
	if found < 1000 {
		t.Fatal(found)
	}
}

// P0: every call ends and none panics, at all arguments.
func TestEndsAtAll(t *testing.T) {
	some := [][]byte{nil, {}, {0}, make([]byte, 5), make([]byte, 6), []byte("abcdefgh"), long(api.MaxBytes), long(api.MaxBytes + 1)}
	for _, n := range []*net.Net{net.New(), new(net.Net), nil} {
		for _, from := range numbers {
			for _, to := range numbers {
				for _, b := range some[:7] {
					link.Frame(from, to, b[:min(len(b), 8)])
					link.Open(from, to, b[:min(len(b), 8)])
					link.Send(n, from, to, b[:min(len(b), 8)])
				}
				link.Send(n, from, to, some[7])
				link.Take(n, from, to)
			}
		}
	}
	for _, from := range []int{math.MinInt, -1, 0, 255, 256, math.MaxInt} {
		for _, b := range some {
			link.Frame(from, 0, b)
			link.Open(0, from, b)
		}
	}
}
