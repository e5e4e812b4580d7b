package codec

import (
	"bytes"
	"encoding/binary"
	"errors"
	"math"
	"runtime"
	"slices"
	"testing"

	"legatee/api"
)

// edges are numbers at which one more piece begins, those beside them, and
// limits of api.
var edges = func() []int {
	l := []int{0, 1, 2, 3, 5, 6, 31, 32, 33, 300, api.MaxNum - 1, api.MaxNum, api.MaxNum + 1}
	for bit := 6; bit < 63; bit++ {
		l = append(l, 1<<bit-1, 1<<bit, 1<<bit+1, 1<<bit+1<<(bit/2))
	}
	return append(l, math.MaxInt-1, math.MaxInt)
}()

// below are numbers that have no bytes.
var below = []int{-1, -2, -127, -128, -129, -api.MaxNum, math.MinInt + 1, math.MinInt}

// laid are the bytes of numbers, made by another program.
func laid(l ...int) []byte {
	var b []byte
	for _, n := range l {
		b = binary.AppendUvarint(b, uint64(n))
	}
	return b
}

// counting answers cells whose numbers all differ: from, from+1 and so on.
func counting(from int) [api.Keys]api.Cell {
	var l [api.Keys]api.Cell
	for key := range l {
		l[key].In, l[key].Out = from, from+1
		from += 2
		for to := range l[key].Given {
			l[key].Given[to] = from
			from++
		}
	}
	return l
}

// flat answers the numbers of cells in their order.
func flat(cells [api.Keys]api.Cell) []int {
	var l []int
	for _, c := range cells {
		l = append(l, c.In, c.Out)
		l = append(l, c.Given[:]...)
	}
	return l
}

// rowNumbers answers a row's numbers in their order.
func rowNumbers(x api.Row) []int {
	l := append([]int{x.Version}, flat(x.Cells)...)
	for who, heir := range x.Heir {
		l = append(l, heir)
		if heir > 0 {
			l = append(l, flat(x.Left[who])...)
		}
	}
	return l
}

// rows are rows of many kinds, of whose bytes nothing is lost.
func rows() []api.Row {
	full := api.Row{Version: 12345, Cells: counting(100)}
	for who := range full.Heir {
		full.Heir[who] = 1000 + who
		full.Left[who] = counting(500 * (who + 1))
	}
	l := []api.Row{{}, {Version: 1}, {Version: math.MaxInt}, {Cells: counting(1)}, full}
	for who := range full.Heir {
		one := api.Row{Version: who, Cells: counting(7)}
		one.Heir[who] = 1
		one.Left[who] = counting(200)
		without := full
		without.Heir[who], without.Left[who] = 0, [api.Keys]api.Cell{}
		empty := full
		empty.Left[who] = [api.Keys]api.Cell{}
		great := full
		great.Heir[who] = math.MaxInt
		l = append(l, one, without, empty, great)
	}
	for key := range full.Cells {
		full.Cells[key] = api.Cell{In: api.MaxNum, Out: api.MaxNum}
		for to := range full.Cells[key].Given {
			full.Cells[key].Given[to] = api.MaxNum
		}
		l = append(l, full)
	}
	return l
}

func views() []api.View {
	full := api.View{Epoch: math.MaxInt, Members: 1<<api.Slots - 1}
	rising := api.View{Epoch: 300, Members: 0b10110}
	for who := range full.Heirs {
		full.Heirs[who] = api.Slots
		rising.Heirs[who] = who
	}
	l := []api.View{{}, full, rising, {Epoch: 1}}
	for members := range 1 << api.Slots {
		l = append(l, api.View{Epoch: 7, Members: members})
	}
	return l
}

func changes() []api.Change {
	var l []api.Change
	for _, kind := range []int{api.Join, api.Leave} {
		for who := range api.Slots {
			for heir := range api.Slots {
				l = append(l, api.Change{Kind: kind, Who: who, Heir: heir})
			}
		}
	}
	return l
}

func ballots() []api.Ballot {
	var l []api.Ballot
	for _, round := range edges {
		for who := range api.Slots {
			l = append(l, api.Ballot{Round: round, Who: who})
		}
	}
	return l
}

// comesBack asks that b be just what read reads, that each of its beginnings
// be none, and that one byte more be too much.
func comesBack(t *testing.T, what string, b []byte, read func(r *Reader)) {
	t.Helper()
	if !Read(b, read) {
		t.Errorf("%s: Read(% X) = false", what, b)
	}
	for end := range b {
		if Read(b[:end], read) {
			t.Errorf("%s: Read of %d of the %d bytes = true", what, end, len(b))
		}
	}
	for _, left := range []byte{0, 1, 127, 128, 255} {
		if Read(append(bytes.Clone(b), left), read) {
			t.Errorf("%s: Read(% X and %X) = true", what, b, left)
		}
	}
}

// refuse asks that b be nothing that read reads.
func refuse(t *testing.T, what string, b []byte, read func(r *Reader)) {
	t.Helper()
	behind := false
	if Read(b, func(r *Reader) { read(r); behind = true }) {
		t.Errorf("%s: Read(% X) = true", what, b)
	}
	if behind {
		t.Errorf("%s: Read(% X): the call went on", what, b)
	}
}

// Of each thing, the call that reads it.
func num(r *Reader)    { r.Num() }
func row(r *Reader)    { r.Row() }
func view(r *Reader)   { r.View() }
func change(r *Reader) { r.Change() }
func ballot(r *Reader) { r.Ballot() }

func TestNumLays(t *testing.T) {
	cases := []struct {
		n    int
		want string
	}{
		{0, "\x00"},
		{1, "\x01"},
		{127, "\x7F"},
		{128, "\x80\x01"},
		{129, "\x81\x01"},
		{255, "\xFF\x01"},
		{256, "\x80\x02"},
		{300, "\xAC\x02"},
		{16383, "\xFF\x7F"},
		{16384, "\x80\x80\x01"},
		{api.MaxNum, "\x80\x80\x80\x80\x80\x20"},
		{1<<56 - 1, "\xFF\xFF\xFF\xFF\xFF\xFF\xFF\x7F"},
		{1 << 56, "\x80\x80\x80\x80\x80\x80\x80\x80\x01"},
		{math.MaxInt, "\xFF\xFF\xFF\xFF\xFF\xFF\xFF\xFF\x7F"},
	}
	for _, c := range cases {
		var w Writer
		if got := w.Num(c.n).Bytes(); string(got) != c.want {
			t.Errorf("Num(%d) = % X, want % X", c.n, got, c.want)
		}
	}
	for _, n := range edges {
		var w Writer
		if got, want := w.Num(n).Bytes(), laid(n); !bytes.Equal(got, want) {
			t.Errorf("Num(%d) = % X, want % X", n, got, want)
		}
	}
}

func TestNumLaysSeveral(t *testing.T) {
	want := laid(edges...)
	var at, each Writer
	if got := at.Num(edges...).Bytes(); !bytes.Equal(got, want) {
		t.Errorf("all at once: % X, want % X", got, want)
	}
	for _, n := range edges {
		each.Num(n)
	}
	if got := each.Bytes(); !bytes.Equal(got, want) {
		t.Errorf("each by itself: % X, want % X", got, want)
	}
}

func TestWriterMadeByNobody(t *testing.T) {
	var w Writer
	if got := w.Bytes(); len(got) != 0 {
		t.Errorf("Bytes = % X, want none", got)
	}
	var none []int
	if got := w.Num().Num(none...).Num([]int{}...).Bytes(); len(got) != 0 {
		t.Errorf("Bytes of no numbers = % X, want none", got)
	}
	if got := new(Writer).Num(7).Bytes(); string(got) != "\x07" {
		t.Errorf("Bytes of another one = % X, want 07", got)
	}
	if got := w.Num().Num(7).Num().Bytes(); string(got) != "\x07" {
		t.Errorf("Bytes = % X, want 07", got)
	}
}

func TestWriterAnswersItself(t *testing.T) {
	var w Writer
	for name, got := range map[string]*Writer{
		"Num of none": w.Num(),
		"Num":         w.Num(1, 300),
		"Row":         w.Row(rows()[4]),
		"View":        w.View(api.View{}),
		"Change":      w.Change(api.Change{}),
		"Ballot":      w.Ballot(api.Ballot{}),
	} {
		if got != &w {
			t.Errorf("%s answers another Writer", name)
		}
	}
}

func TestWriterLaysBehind(t *testing.T) {
	x := rows()[4]
	v := views()[2]
	c := api.Change{Kind: api.Leave, Who: 3, Heir: 4}
	b := api.Ballot{Round: 300, Who: 2}
	var w Writer
	var want []byte
	for range 3 {
		w.Num(5, 300).Row(x).View(v).Change(c).Ballot(b)
		want = append(want, laid(5, 300)...)
		want = append(want, laid(rowNumbers(x)...)...)
		want = append(want, laid(300, 0b10110, 0, 1, 2, 3, 4)...)
		want = append(want, laid(1, 3, 4, 300, 2)...)
		if got := w.Bytes(); !bytes.Equal(got, want) {
			t.Fatalf("Bytes = % X, want % X", got, want)
		}
	}
	read := func(r *Reader) {
		for range 3 {
			if r.Num() != 5 || r.Small(301) != 300 || r.Row() != x || r.View() != v || r.Change() != c || r.Ballot() != b {
				t.Error("what was laid didn't come back")
			}
		}
	}
	comesBack(t, "all kinds", w.Bytes(), read)
}

func TestNumReads(t *testing.T) {
	for _, n := range edges {
		got := -1
		comesBack(t, "a number", laid(n), func(r *Reader) { got = r.Num() })
		Read(laid(n), func(r *Reader) { got = r.Num() })
		if got != n {
			t.Errorf("Num of % X = %d, want %d", laid(n), got, n)
		}
	}
}

func TestNumReadsSeveral(t *testing.T) {
	var got []int
	ok := Read(laid(edges...), func(r *Reader) {
		for range edges {
			got = append(got, r.Num())
		}
	})
	if !ok || !slices.Equal(got, edges) {
		t.Errorf("Read = %v, numbers %v, want %v", ok, got, edges)
	}
}

func TestNumRefuses(t *testing.T) {
	cases := []struct{ what, text string }{
		{"no bytes", ""},
		{"ends too early", "\x80"},
		{"ends too early", "\xFF"},
		{"ends too early", "\xAC"},
		{"ends too early", "\x80\x80"},
		{"ends too early, eight pieces", "\xFF\xFF\xFF\xFF\xFF\xFF\xFF\xFF"},
		{"ends too early, nine pieces", "\xFF\xFF\xFF\xFF\xFF\xFF\xFF\xFF\xFF"},
		{"0 in two pieces", "\x80\x00"},
		{"0 in three pieces", "\x80\x80\x00"},
		{"1 in two pieces", "\x81\x00"},
		{"127 in two pieces", "\xFF\x00"},
		{"300 in three pieces", "\xAC\x82\x00"},
		{"0 in nine pieces", "\x80\x80\x80\x80\x80\x80\x80\x80\x00"},
		{"eight pieces' greatest in nine", "\xFF\xFF\xFF\xFF\xFF\xFF\xFF\xFF\x00"},
		{"ten pieces, none needed", "\x80\x80\x80\x80\x80\x80\x80\x80\x80\x00"},
		{"the greatest in ten pieces", "\xFF\xFF\xFF\xFF\xFF\xFF\xFF\xFF\xFF\x00"},
		{"one above the greatest", "\x80\x80\x80\x80\x80\x80\x80\x80\x80\x01"},
		{"ten pieces", "\xFF\xFF\xFF\xFF\xFF\xFF\xFF\xFF\xFF\x01"},
		{"ten pieces, the last great", "\x81\x80\x80\x80\x80\x80\x80\x80\x80\x7F"},
		{"eleven pieces", "\x81\x80\x80\x80\x80\x80\x80\x80\x80\x80\x01"},
		{"many pieces", string(bytes.Repeat([]byte{0x80}, 1000)) + "\x01"},
	}
	for _, c := range cases {
		refuse(t, c.what, []byte(c.text), num)
		refuse(t, c.what, []byte(c.text), func(r *Reader) { r.Small(math.MaxInt) })
	}
}

func TestReadAsksThatNothingBeLeft(t *testing.T) {
	none := func(r *Reader) {}
	if !Read(nil, none) || !Read([]byte{}, none) {
		t.Error("no bytes, none read: false")
	}
	for _, text := range []string{"\x00", "\x01", "\x80", "\xFF\xFF", "\x00\x00\x00"} {
		if Read([]byte(text), none) {
			t.Errorf("% X, none read: true", text)
		}
	}
	for _, text := range []string{"\x01\x01", "\x00\x00", "\xAC\x02\x00", "\x01\x80", "\x01\x80\x00"} {
		if Read([]byte(text), num) {
			t.Errorf("% X, one number read: true", text)
		}
	}
}

// TestEachTwoBytes holds all lists of two bytes against the words.
func TestEachTwoBytes(t *testing.T) {
	for first := range 256 {
		for second := range 256 {
			b := []byte{byte(first), byte(second)}
			if got, want := Read(b, num), first >= 128 && second > 0 && second < 128; got != want {
				t.Errorf("% X as a number: %v, want %v", b, got, want)
			}
			two := func(r *Reader) {
				if one, two := r.Num(), r.Num(); one != first || two != second {
					t.Errorf("% X as two numbers: %d, %d", b, one, two)
				}
			}
			if got, want := Read(b, two), first < 128 && second < 128; got != want {
				t.Errorf("% X as two numbers: %v, want %v", b, got, want)
			}
		}
	}
}

// TestNumbersBelowNothing asks no more than that a number below 0 is laid as
// none that is read.
func TestNumbersBelowNothing(t *testing.T) {
	for _, n := range below {
		var w Writer
		b := w.Num(n).Bytes()
		refuse(t, "a number below 0", b, num)
		b = w.Num(5).Bytes()
		if Read(b, func(r *Reader) { r.Num(); r.Num() }) {
			t.Errorf("Num(%d, 5) is read as two numbers", n)
		}
	}
}

func TestSmall(t *testing.T) {
	for _, n := range edges {
		for _, limit := range append(slices.Concat(edges, below), n, n-1) {
			got, ended := -1, false
			ok := Read(laid(n), func(r *Reader) {
				got = r.Small(limit)
				ended = true
			})
			if want := n < limit; ok != want || ended != want || ok && got != n {
				t.Errorf("Small(%d) of %d = %d, Read %v, want %v", limit, n, got, ok, want)
			}
		}
	}
}

func TestSmallOfNoNumber(t *testing.T) {
	for _, limit := range append(slices.Concat(edges, below), 0) {
		refuse(t, "0 and a limit", []byte{0x80, 0}, func(r *Reader) { r.Small(limit) })
		refuse(t, "no bytes and a limit", nil, func(r *Reader) { r.Small(limit) })
	}
}

func TestRowLays(t *testing.T) {
	for i, x := range rows() {
		var w Writer
		if got, want := w.Row(x).Bytes(), laid(rowNumbers(x)...); !bytes.Equal(got, want) {
			t.Errorf("row %d: % X, want % X", i, got, want)
		}
	}
}

// TestRowLaysInOrder has a row's numbers written out.
func TestRowLaysInOrder(t *testing.T) {
	var x api.Row
	x.Version = 9
	x.Cells[0] = api.Cell{In: 1, Out: 2, Given: [api.Slots]int{3, 4, 5, 6, 7}}
	x.Cells[3] = api.Cell{In: 300}
	x.Heir = [api.Slots]int{0, 8, 0, 0, 1}
	x.Left[1][1].Out = 10
	x.Left[4][3].Given[4] = 11
	want := "\x09" +
		"\x01\x02\x03\x04\x05\x06\x07" + "\x00\x00\x00\x00\x00\x00\x00" +
		"\x00\x00\x00\x00\x00\x00\x00" + "\xAC\x02\x00\x00\x00\x00\x00\x00" +
		"\x00" +
		"\x08" + "\x00\x00\x00\x00\x00\x00\x00" + "\x00\x0A\x00\x00\x00\x00\x00" +
		"\x00\x00\x00\x00\x00\x00\x00" + "\x00\x00\x00\x00\x00\x00\x00" +
		"\x00" + "\x00" +
		"\x01" + "\x00\x00\x00\x00\x00\x00\x00" + "\x00\x00\x00\x00\x00\x00\x00" +
		"\x00\x00\x00\x00\x00\x00\x00" + "\x00\x00\x00\x00\x00\x00\x0B"
	var w Writer
	if got := w.Row(x).Bytes(); string(got) != want {
		t.Errorf("% X, want % X", got, want)
	}
	var y api.Row
	if !Read([]byte(want), func(r *Reader) { y = r.Row() }) || y != x {
		t.Errorf("read: %v, want %v", y, x)
	}
}

// TestRowWithoutHeirHasNoLeft: whose Heir is 0, of that Left has no bytes.
func TestRowWithoutHeirHasNoLeft(t *testing.T) {
	for who := range api.Slots {
		x := rows()[4]
		x.Heir[who] = 0
		want := x
		want.Left[who] = [api.Keys]api.Cell{}
		var w Writer
		b := w.Row(x).Bytes()
		if !bytes.Equal(b, laid(rowNumbers(want)...)) {
			t.Errorf("Left[%d] is laid", who)
		}
		var y api.Row
		if !Read(b, func(r *Reader) { y = r.Row() }) || y != want {
			t.Errorf("Left[%d] is read", who)
		}
	}
}

func TestRowReads(t *testing.T) {
	for i, x := range rows() {
		b := laid(rowNumbers(x)...)
		var y api.Row
		if !Read(b, func(r *Reader) { y = r.Row() }) || y != x {
			t.Errorf("row %d: %v, want %v", i, y, x)
		}
		comesBack(t, "a row", b, row)
	}
}

// TestRowReadsCellsUpToMaxNum puts numbers into each place of a row's bytes:
// only a cell's has a limit.
func TestRowReadsCellsUpToMaxNum(t *testing.T) {
	const cells = api.Keys * (2 + api.Slots)
	x := rows()[4]
	right := rowNumbers(x)
	for place := range right {
		free := place == 0 || (place-1-cells)%(1+cells) == 0 && place > cells
		for _, n := range []int{1, api.MaxNum - 1, api.MaxNum, api.MaxNum + 1, 2 * api.MaxNum, math.MaxInt} {
			l := slices.Clone(right)
			l[place] = n
			want := free || n <= api.MaxNum
			if !want {
				refuse(t, "a row", laid(l...), row)
			} else if !Read(laid(l...), row) {
				t.Errorf("number %d is %d: false", place, n)
			}
		}
	}
}

func TestRowRefusesLongNumbers(t *testing.T) {
	const count = 1 + api.Keys*(2+api.Slots) + api.Slots
	for place := range count {
		b := make([]byte, count)
		if !Read(b, row) {
			t.Fatal("a row of nothing but 0: false")
		}
		b[place] = 0x80
		refuse(t, "a 0 in two pieces", slices.Insert(b, place+1, 0), row)
	}
}

func TestView(t *testing.T) {
	for _, v := range views() {
		b := laid(append([]int{v.Epoch, v.Members}, v.Heirs[:]...)...)
		var w Writer
		if got := w.View(v).Bytes(); !bytes.Equal(got, b) {
			t.Errorf("View(%v) = % X, want % X", v, got, b)
		}
		var got api.View
		if !Read(b, func(r *Reader) { got = r.View() }) || got != v {
			t.Errorf("read: %v, want %v", got, v)
		}
		comesBack(t, "a view", b, view)
	}
}

func TestViewLimits(t *testing.T) {
	for _, n := range edges {
		if !Read(laid(n, 0, 0, 0, 0, 0, 0), view) {
			t.Errorf("Epoch %d: false", n)
		}
		if n >= 1<<api.Slots {
			refuse(t, "Members", laid(0, n, 0, 0, 0, 0, 0), view)
		} else if !Read(laid(0, n, 0, 0, 0, 0, 0), view) {
			t.Errorf("Members %d: false", n)
		}
		for who := range api.Slots {
			l := make([]int, 2+api.Slots)
			l[2+who] = n
			if n > api.Slots {
				refuse(t, "an heir", laid(l...), view)
			} else if !Read(laid(l...), view) {
				t.Errorf("Heirs[%d] %d: false", who, n)
			}
		}
	}
}

func TestChange(t *testing.T) {
	for _, c := range changes() {
		b := laid(c.Kind, c.Who, c.Heir)
		var w Writer
		if got := w.Change(c).Bytes(); !bytes.Equal(got, b) {
			t.Errorf("Change(%v) = % X, want % X", c, got, b)
		}
		var got api.Change
		if !Read(b, func(r *Reader) { got = r.Change() }) || got != c {
			t.Errorf("read: %v, want %v", got, c)
		}
		comesBack(t, "a change", b, change)
	}
}

func TestChangeLimits(t *testing.T) {
	for _, n := range edges {
		if n > api.Leave {
			refuse(t, "a kind", laid(n, 1, 1), change)
		}
		if n >= api.Slots {
			refuse(t, "who", laid(1, n, 1), change)
			refuse(t, "an heir", laid(1, 1, n), change)
			refuse(t, "a join's heir", laid(0, 1, n), change)
		}
	}
}

func TestBallot(t *testing.T) {
	for _, c := range ballots() {
		b := laid(c.Round, c.Who)
		var w Writer
		if got := w.Ballot(c).Bytes(); !bytes.Equal(got, b) {
			t.Errorf("Ballot(%v) = % X, want % X", c, got, b)
		}
		var got api.Ballot
		if !Read(b, func(r *Reader) { got = r.Ballot() }) || got != c {
			t.Errorf("read: %v, want %v", got, c)
		}
		comesBack(t, "a ballot", b, ballot)
	}
}

func TestBallotLimits(t *testing.T) {
	for _, n := range edges {
		if n >= api.Slots {
			refuse(t, "who", laid(0, n), ballot)
		}
	}
}

// TestWriterLaysWhatNoReaderTakes: a Writer has no limits.
func TestWriterLaysWhatNoReaderTakes(t *testing.T) {
	var x api.Row
	x.Cells[2].Given[1] = api.MaxNum + 1
	var w Writer
	if b := w.Row(x).Bytes(); !bytes.Equal(b, laid(rowNumbers(x)...)) {
		t.Errorf("a row: % X", b)
	}
	refuse(t, "a cell too great", w.Bytes(), row)
	w = Writer{}
	v := api.View{Epoch: 1, Members: 1 << api.Slots, Heirs: [api.Slots]int{200, 0, 0, 0, 6}}
	if b := w.View(v).Bytes(); !bytes.Equal(b, laid(1, 1<<api.Slots, 200, 0, 0, 0, 6)) {
		t.Errorf("a view: % X", b)
	}
	refuse(t, "members and heirs too great", w.Bytes(), view)
	w = Writer{}
	if b := w.Change(api.Change{Kind: 2, Who: 5, Heir: 300}).Bytes(); !bytes.Equal(b, laid(2, 5, 300)) {
		t.Errorf("a change: % X", b)
	}
	refuse(t, "a change", w.Bytes(), change)
	w = Writer{}
	if b := w.Ballot(api.Ballot{Round: math.MaxInt, Who: 128}).Bytes(); !bytes.Equal(b, laid(math.MaxInt, 128)) {
		t.Errorf("a ballot: % X", b)
	}
	refuse(t, "a ballot", w.Bytes(), ballot)
}

// thrown answers what Read throws, and whether it throws anything.
func thrown(b []byte, call func(r *Reader)) (what any, threw bool) {
	threw = true
	defer func() { what = recover() }()
	Read(b, call)
	return nil, false
}

func TestOtherPanicsGoOn(t *testing.T) {
	for _, what := range []any{"other", "", 0, 7, api.ErrForm, errors.New("x"), struct{}{}, [2]int{1, 2}, &Writer{}, true, false} {
		for _, b := range [][]byte{nil, {}, {5}, {5, 5}, {0x80}} {
			got, threw := thrown(b, func(*Reader) { panic(what) })
			if !threw || got != what {
				t.Errorf("thrown within Read(% X): %v, came out: %v, %v", b, what, got, threw)
			}
		}
		got, threw := thrown([]byte{5}, func(r *Reader) { r.Num(); panic(what) })
		if !threw || got != what {
			t.Errorf("thrown behind all bytes: %v, came out: %v, %v", what, got, threw)
		}
	}
}

func TestRuntimePanicsGoOn(t *testing.T) {
	var list []int
	var table map[int]int
	var nobody *api.Row
	var call func()
	zero := 0
	for name, fault := range map[string]func(*Reader){
		"an index":     func(r *Reader) { list[r.Num()]++ },
		"a map":        func(r *Reader) { table[r.Num()]++ },
		"a pointer":    func(r *Reader) { nobody.Version = r.Num() },
		"a division":   func(r *Reader) { zero = r.Num() / zero },
		"an assertion": func(r *Reader) { _ = any(r).(error) },
		"a call":       func(*Reader) { call() },
	} {
		got, threw := thrown([]byte{5}, fault)
		if _, is := got.(runtime.Error); !threw || !is {
			t.Errorf("%s: came out: %v, %v", name, got, threw)
		}
	}
	got, threw := thrown(nil, func(*Reader) { panic(nil) })
	if _, is := got.(*runtime.PanicNilError); !threw || !is {
		t.Errorf("nil: came out: %v, %v", got, threw)
	}
}

func TestGoexitGoesOn(t *testing.T) {
	behind, done := false, make(chan bool)
	go func() {
		defer close(done)
		Read(nil, func(*Reader) { runtime.Goexit() })
		behind = true
	}()
	<-done
	if behind {
		t.Error("Read answered, though its goroutine was to end")
	}
}

// TestOtherPanicInsteadOfGivingUp: who throws something else while a Reader
// gives up is heard.
func TestOtherPanicInsteadOfGivingUp(t *testing.T) {
	got, threw := thrown(nil, func(r *Reader) {
		defer func() { panic("other") }()
		r.Num()
	})
	if !threw || got != "other" {
		t.Errorf("came out: %v, %v", got, threw)
	}
}

func TestGivingUpRunsDeferred(t *testing.T) {
	ran := false
	if Read(nil, func(r *Reader) { defer func() { ran = true }(); r.Num() }) || !ran {
		t.Error("what was deferred within Read didn't run, or Read = true")
	}
}

// TestGivingUpTakenBack: a Reader gave up, whoever takes that back.
func TestGivingUpTakenBack(t *testing.T) {
	for _, b := range [][]byte{nil, {0x80}, {0x80, 0}, {9}} {
		ok := Read(b, func(r *Reader) {
			defer func() { recover() }()
			r.Small(5)
		})
		if ok {
			t.Errorf("Read(% X) = true", b)
		}
	}
}

func TestReadWithinRead(t *testing.T) {
	inner := []byte{0x80}
	var got int
	ok := Read([]byte{5, 6}, func(r *Reader) {
		got = r.Num()
		if Read(inner, num) {
			t.Error("the inner one: true")
		}
		if !Read([]byte{7}, func(s *Reader) { got = 10*got + s.Num() }) {
			t.Error("the other inner one: false")
		}
		got = 10*got + r.Num()
	})
	if !ok || got != 576 {
		t.Errorf("the outer one: %v, %d, want true, 576", ok, got)
	}
	outer := true
	ok = Read(nil, func(r *Reader) {
		outer = Read([]byte{7}, func(s *Reader) { s.Num(); r.Num() })
	})
	if ok || outer {
		t.Errorf("the outer one gave up within the inner one: %v, %v, want false of both", ok, outer)
	}
}

func TestReadWithoutCall(t *testing.T) {
	for _, b := range [][]byte{nil, {}, {0}, {0x80}} {
		if Read(b, nil) {
			t.Errorf("Read(% X, nil) = true", b)
		}
	}
}

// TestReadsDoNotHangTogether: what one Read does is nothing to the next one.
func TestReadsDoNotHangTogether(t *testing.T) {
	b := []byte{5}
	for range 3 {
		if !Read(b, num) || Read(b, func(r *Reader) { r.Small(5) }) || Read(b, func(*Reader) {}) {
			t.Error("the same bytes are read in another way")
		}
		thrown(b, func(*Reader) { panic("other") })
	}
}

// within lays b into a greater list, so that there are bytes that are not its
// own ahead of it and, within its capacity, behind it.
func within(b []byte) (whole, part []byte) {
	whole = bytes.Repeat([]byte{0x05}, len(b)+16)
	copy(whole[8:], b)
	return whole, whole[8 : 8+len(b)]
}

func TestReadLeavesItsBytes(t *testing.T) {
	x := rows()[4]
	lists := [][]byte{nil, {5}, {0x80}, {0x80, 0}, laid(edges...), laid(rowNumbers(x)...)}
	for _, b := range lists {
		for _, call := range []func(*Reader){num, row, view, change, ballot, func(*Reader) {}} {
			whole, part := within(b)
			before := bytes.Clone(whole)
			first := Read(part, call)
			if second := Read(part, call); first != second || !bytes.Equal(whole, before) {
				t.Errorf("Read changed the %d bytes it was handed, or those beside them", len(b))
			}
		}
	}
}

// TestReadSeesItsBytesAlone: what stands behind them, within their capacity,
// is not read.
func TestReadSeesItsBytesAlone(t *testing.T) {
	_, part := within([]byte{0x80})
	refuse(t, "ends too early, in a greater list", part, num)
	_, part = within(nil)
	refuse(t, "no bytes, in a greater list", part, num)
}

// TestReadKeepsNoBytes: a Reader that is kept has nothing of them any more.
func TestReadKeepsNoBytes(t *testing.T) {
	calls := []func(*Reader){func(*Reader) {}, num, func(r *Reader) { r.Small(0) }, func(*Reader) { panic("other") }}
	for i, call := range calls {
		var kept *Reader
		thrown([]byte{5, 6, 7}, func(r *Reader) { kept = r; call(r) })
		if len(kept.rest) != 0 || cap(kept.rest) != 0 {
			t.Errorf("call %d: the Reader has % X", i, kept.rest)
		}
	}
}

func TestNumLeavesItsList(t *testing.T) {
	l := slices.Concat(edges, below)
	before := slices.Clone(l)
	var w Writer
	w.Num(l...)
	if !slices.Equal(l, before) {
		t.Error("Num changed its list")
	}
	b := w.Bytes()
	clear(l)
	if !bytes.Equal(w.Bytes(), b) {
		t.Error("Num kept its list")
	}
}

func TestBytesIsNewMemory(t *testing.T) {
	var w Writer
	var want []byte
	for n := range 300 {
		w.Num(n)
		want = append(want, laid(n)...)
		first, second := w.Bytes(), w.Bytes()
		first = first[:cap(first)]
		for i := range first {
			first[i] ^= 0xFF
		}
		if !bytes.Equal(second, want) || !bytes.Equal(w.Bytes(), want) {
			t.Fatalf("%d numbers: what Bytes answered shares memory", n+1)
		}
		w.Num(n)
		if !bytes.Equal(second, want) {
			t.Fatalf("%d numbers: what is laid later changed what Bytes answered", n+1)
		}
		copy(second, bytes.Repeat([]byte{0xFF}, len(second)))
		want = append(want, laid(n)...)
	}
	if !bytes.Equal(w.Bytes(), want) {
		t.Error("Bytes isn't what was laid")
	}
}

// TestBytesChangesNothing: what is laid behind it comes to the same.
func TestBytesChangesNothing(t *testing.T) {
	var asked, silent Writer
	for _, n := range edges {
		asked.Num(n).Bytes()
		silent.Num(n)
	}
	if !bytes.Equal(asked.Bytes(), silent.Bytes()) {
		t.Error("Bytes changed what it was asked of")
	}
}

// TestNoCallPanics is P0: what the calls answer here, the other tests ask.
func TestNoCallPanics(t *testing.T) {
	for _, n := range slices.Concat(edges, below) {
		cell := api.Cell{In: n, Out: n, Given: [api.Slots]int{n, n, n, n, n}}
		var x api.Row
		x.Version = n
		for who := range x.Heir {
			x.Heir[who] = n
			for key := range x.Cells {
				x.Cells[key], x.Left[who][key] = cell, cell
			}
		}
		var w Writer
		w.Num(n, n).Row(x).View(api.View{Epoch: n, Members: n, Heirs: [api.Slots]int{n, n, n, n, n}})
		w.Change(api.Change{Kind: n, Who: n, Heir: n}).Ballot(api.Ballot{Round: n, Who: n})
		tryAll(w.Bytes(), n)
	}
	n := uint32(1)
	for length := range 400 {
		b := make([]byte, length)
		for i := range b {
			n = n*1664525 + 1013904223
			// The longer, the greater: short ones are of small numbers alone.
			b[i] = byte(int(n>>24) % (1 + length))
		}
		tryAll(b, length)
	}
	tryAll(bytes.Repeat([]byte{0xFF}, 1<<20), 1<<20)
	tryAll(make([]byte, 1<<20), 1)
}

// tryAll reads b by each call.
func tryAll(b []byte, limit int) {
	for _, call := range []func(*Reader){nil, num, row, view, change, ballot, func(r *Reader) { r.Small(limit) }} {
		Read(b, call)
		if call != nil {
			Read(b, func(r *Reader) {
				for {
					call(r)
				}
			})
		}
	}
}
