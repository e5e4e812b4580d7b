package sum

import (
	"bytes"
	"hash/crc32"
	"testing"
)

// texts are bytes of many lengths and kinds, the empty ones among them.
func texts() [][]byte {
	l := [][]byte{nil, {}, {0}, {255}, {0, 0, 0, 0}, {255, 255, 255, 255}, []byte("123456789")}
	n := uint32(1)
	for length := range 150 {
		b := make([]byte, length)
		for i := range b {
			n = n*1664525 + 1013904223
			b[i] = byte(n >> 24)
		}
		l = append(l, b)
	}
	long := make([]byte, 3000)
	for i := range long {
		long[i] = byte(i * i)
	}
	return append(l, long, long[:2999], make([]byte, 2048*64))
}

func TestOfKnownSums(t *testing.T) {
	cases := []struct {
		text string
		want uint32
	}{
		{"", 0},
		{"a", 0xE8B7BE43},
		{"abc", 0x352441C2},
		{"123456789", 0xCBF43926},
		{"message digest", 0x20159D7F},
		{"abcdefghijklmnopqrstuvwxyz", 0x4C2750BD},
		{"The quick brown fox jumps over the lazy dog", 0x414FA339},
		{"\x00", 0xD202EF8D},
		{"\x00\x00\x00\x00", 0x2144DF1C},
		{"\xff", 0xFF000000},
		{"\xff\xff\xff\xff", 0xFFFFFFFF},
		{string(make([]byte, 32)), 0x190A55AD},
		{string(bytes.Repeat([]byte{0xFF}, 32)), 0xFF6CAB0B},
	}
	for _, c := range cases {
		if got := Of([]byte(c.text)); got != c.want {
			t.Errorf("Of(%q) = %08X, want %08X", c.text, got, c.want)
		}
	}
}

func TestOfEveryByte(t *testing.T) {
	for n := range 256 {
		b := []byte{byte(n)}
		if got, want := Of(b), crc32.ChecksumIEEE(b); got != want {
			t.Errorf("Of(% X) = %08X, want %08X", b, got, want)
		}
	}
}

func TestOfManyTexts(t *testing.T) {
	for _, b := range texts() {
		if got, want := Of(b), crc32.ChecksumIEEE(b); got != want {
			t.Errorf("Of %d bytes = %08X, want %08X", len(b), got, want)
		}
	}
}

func TestOfNoParts(t *testing.T) {
	var none [][]byte
	cases := map[string]uint32{
		"no parts":       Of(),
		"a list of none": Of(none...),
		"an empty list":  Of([][]byte{}...),
		"nil":            Of(nil),
		"an empty part":  Of([]byte{}),
		"empty parts":    Of([]byte{}, nil, []byte{}),
	}
	for name, got := range cases {
		if got != 0 {
			t.Errorf("Of %s = %08X, want 0", name, got)
		}
	}
}

func TestOfPartsIsOfAllTogether(t *testing.T) {
	for _, all := range texts() {
		if len(all) > 150 {
			continue
		}
		want := crc32.ChecksumIEEE(all)
		for cut := range len(all) + 1 {
			if got := Of(all[:cut], all[cut:]); got != want {
				t.Errorf("%d bytes cut at %d: %08X, want %08X", len(all), cut, got, want)
			}
			half := cut / 2
			if got := Of(nil, all[:half], []byte{}, all[half:cut], nil, all[cut:], []byte{}); got != want {
				t.Errorf("%d bytes cut at %d and %d: %08X, want %08X", len(all), half, cut, got, want)
			}
		}
		single := make([][]byte, len(all))
		for i := range all {
			single[i] = all[i : i+1]
		}
		if got := Of(single...); got != want {
			t.Errorf("%d bytes, each a part: %08X, want %08X", len(all), got, want)
		}
	}
}

func TestOfPartsInTheirOrder(t *testing.T) {
	a, b := []byte("12345"), []byte("6789")
	if got := Of(a, b); got != 0xCBF43926 {
		t.Errorf("in order: %08X, want CBF43926", got)
	}
	if got, want := Of(b, a), crc32.ChecksumIEEE([]byte("678912345")); got != want || got == 0xCBF43926 {
		t.Errorf("turned round: %08X, want %08X", got, want)
	}
	if got, want := Of(a, a), crc32.ChecksumIEEE([]byte("1234512345")); got != want {
		t.Errorf("one part twice: %08X, want %08X", got, want)
	}
}

func TestPut(t *testing.T) {
	cases := []struct{ text, want string }{
		{"", "\x00\x00\x00\x00"},
		{"a", "a\x43\xBE\xB7\xE8"},
		{"123456789", "123456789\x26\x39\xF4\xCB"},
		{"\x00", "\x00\x8D\xEF\x02\xD2"},
		{"\x00\x00\x00\x00", "\x00\x00\x00\x00\x1C\xDF\x44\x21"},
	}
	for _, c := range cases {
		if got := Put([]byte(c.text)); string(got) != c.want {
			t.Errorf("Put(%q) = % X, want % X", c.text, got, c.want)
		}
	}
	if got := Put(nil); string(got) != "\x00\x00\x00\x00" {
		t.Errorf("Put(nil) = % X, want four bytes 0", got)
	}
}

func TestPutOfManyTexts(t *testing.T) {
	for _, b := range texts() {
		n := crc32.ChecksumIEEE(b)
		want := append(bytes.Clone(b), byte(n), byte(n>>8), byte(n>>16), byte(n>>24))
		if got := Put(b); !bytes.Equal(got, want) {
			t.Errorf("Put of %d bytes isn't they and their sum", len(b))
		}
	}
}

func TestTakeTakesWhatWasPut(t *testing.T) {
	for _, b := range texts() {
		if got, ok := Take(Put(b)); !ok || !bytes.Equal(got, b) {
			t.Errorf("Take of Put of %d bytes: %d bytes, %v", len(b), len(got), ok)
		}
		if got, ok := Take(Put(Put(b))); !ok || !bytes.Equal(got, Put(b)) {
			t.Errorf("Take of Put of Put of %d bytes: %d bytes, %v", len(b), len(got), ok)
		}
	}
}

// refuse asks that b be no bytes' Put.
func refuse(t *testing.T, what string, b []byte) {
	t.Helper()
	if got, ok := Take(b); ok || len(got) != 0 {
		t.Errorf("%s: Take(% X) = % X, %v, want nothing, false", what, b, got, ok)
	}
}

func TestTakeOfFewBytes(t *testing.T) {
	refuse(t, "nil", nil)
	refuse(t, "no bytes", []byte{})
	for n := 1; n < 4; n++ {
		refuse(t, "too few, 0", make([]byte, n))
		refuse(t, "too few, 255", bytes.Repeat([]byte{255}, n))
		refuse(t, "too few, in a greater list", make([]byte, n, 64))
	}
}

func TestTakeOfFourBytes(t *testing.T) {
	if got, ok := Take([]byte{0, 0, 0, 0}); !ok || len(got) != 0 {
		t.Errorf("Take of the sum of nothing = % X, %v, want nothing, true", got, ok)
	}
	for i := range 4 {
		for turn := 1; turn < 256; turn++ {
			b := make([]byte, 4)
			b[i] = byte(turn)
			refuse(t, "four bytes that aren't the sum of nothing", b)
		}
	}
}

func TestTakeOfATurnedByte(t *testing.T) {
	for _, b := range texts() {
		if len(b) > 150 {
			continue
		}
		put := Put(b)
		for i := range put {
			for _, turn := range []byte{1, 2, 4, 8, 16, 32, 64, 128, 255, 0x5A} {
				put[i] ^= turn
				refuse(t, "a byte was turned", put)
				put[i] ^= turn
			}
		}
	}
}

func TestTakeOfEachTurnOfAByte(t *testing.T) {
	put := Put([]byte("123456789"))
	for i := range put {
		for turn := 1; turn < 256; turn++ {
			put[i] ^= byte(turn)
			refuse(t, "a byte was turned", put)
			put[i] ^= byte(turn)
		}
	}
}

func TestTakeOfWhatIsNoPut(t *testing.T) {
	text := []byte("123456789")
	put := Put(text)
	for end := range put {
		refuse(t, "cut at its end", put[:end])
	}
	for from := 1; from < len(put); from++ {
		refuse(t, "cut at its beginning", put[from:])
	}
	refuse(t, "without a sum", text)
	refuse(t, "one byte more", append(bytes.Clone(put), 0))
	refuse(t, "one byte ahead", append([]byte{0}, put...))
	refuse(t, "the sum ahead", []byte("\x26\x39\xF4\xCB123456789"))
	refuse(t, "the highest byte first", []byte("123456789\xCB\xF4\x39\x26"))
	refuse(t, "its bits not turned at the end", []byte("123456789\xD9\xC6\x0B\x34"))
	refuse(t, "another text's sum", []byte("123456798\x26\x39\xF4\xCB"))
	refuse(t, "its sum twice", append(bytes.Clone(put), 0x26, 0x39, 0xF4, 0xCB))
}

// within lays b into a greater list, so that there are bytes that are not its
// own ahead of it and, within its capacity, behind it.
func within(b []byte) (whole, part []byte) {
	whole = bytes.Repeat([]byte{0xA5}, len(b)+16)
	copy(whole[8:], b)
	return whole, whole[8 : 8+len(b)]
}

func TestCallsLeaveWhatTheyAreHanded(t *testing.T) {
	for _, b := range append(texts(), Put([]byte("ab")), Put(nil), []byte("1234567")) {
		whole, part := within(b)
		before := bytes.Clone(whole)
		Of(part, part)
		Put(part)
		Take(part)
		if !bytes.Equal(whole, before) {
			t.Errorf("a call changed the %d bytes it was handed, or those beside them", len(b))
		}
	}
}

func TestOfLeavesItsList(t *testing.T) {
	l := [][]byte{[]byte("1234"), nil, []byte("56789")}
	if a, b := Of(l...), Of(l...); a != 0xCBF43926 || b != a {
		t.Errorf("Of twice: %08X, %08X, want CBF43926", a, b)
	}
	if string(l[0]) != "1234" || l[1] != nil || string(l[2]) != "56789" {
		t.Errorf("Of changed its list to %q", l)
	}
}

// spoil turns all that b may ever reach, up to its capacity.
func spoil(b []byte) {
	b = b[:cap(b)]
	for i := range b {
		b[i] ^= 0xFF
	}
}

func TestPutIsNewMemory(t *testing.T) {
	for _, b := range texts() {
		whole, part := within(b)
		before, want := bytes.Clone(whole), Put(b)
		first, second := Put(part), Put(part)
		spoil(first)
		if !bytes.Equal(whole, before) {
			t.Errorf("what Put told of %d bytes shares their memory", len(b))
		}
		if !bytes.Equal(second, want) {
			t.Errorf("two answers of Put of %d bytes share memory", len(b))
		}
		spoil(whole)
		if !bytes.Equal(second, want) {
			t.Errorf("Put kept the %d bytes it was handed", len(b))
		}
	}
}

func TestTakeIsNewMemory(t *testing.T) {
	for _, b := range texts() {
		whole, part := within(Put(b))
		before := bytes.Clone(whole)
		first, _ := Take(part)
		second, _ := Take(part)
		spoil(first)
		if !bytes.Equal(whole, before) {
			t.Errorf("what Take told of %d bytes shares their memory", len(b))
		}
		if !bytes.Equal(second, b) {
			t.Errorf("two answers of Take of %d bytes share memory", len(b))
		}
		spoil(whole)
		if !bytes.Equal(second, b) {
			t.Errorf("Take kept the %d bytes it was handed", len(b))
		}
	}
}

// TestNoCallPanics is P0: what the calls answer here, the other tests ask.
func TestNoCallPanics(t *testing.T) {
	Of()
	Of(nil)
	Of(nil, nil)
	Put(nil)
	Take(nil)
	all := append(texts(), make([]byte, 3), make([]byte, 4), make([]byte, 5), make([]byte, 1<<20))
	for _, b := range all {
		Of(b, nil, b)
		Put(b)
		Take(b)
	}
	Of(all...)
}
