package num

import (
	"math"
	"slices"
	"testing"

	"legatee/api"
)

// edges are numbers at which an answer may turn, and those far out.
var edges = []int{
	math.MinInt, math.MinInt + 1, -api.MaxNum - 1, -api.MaxNum, -2, -1,
	0, 1, 2, 3, 31, 32, 33, api.MaxNum / 2, api.MaxNum/2 + 1,
	api.MaxNum - 1, api.MaxNum, api.MaxNum + 1, 2 * api.MaxNum,
	math.MaxInt - 1, math.MaxInt,
}

func TestRight(t *testing.T) {
	cases := []struct {
		n    int
		want bool
	}{
		{0, true},
		{1, true},
		{12345, true},
		{api.MaxNum - 1, true},
		{api.MaxNum, true},
		{api.MaxNum + 1, false},
		{2 * api.MaxNum, false},
		{math.MaxInt, false},
		{-1, false},
		{-api.MaxNum, false},
		{math.MinInt, false},
	}
	for _, c := range cases {
		if got := Right(c.n); got != c.want {
			t.Errorf("Right(%d) = %v, want %v", c.n, got, c.want)
		}
	}
}

func TestAdd(t *testing.T) {
	cases := []struct {
		name string
		l    []int
		want int
		err  api.Errno
	}{
		{"none", nil, 0, api.OK},
		{"an empty list", []int{}, 0, api.OK},
		{"zero", []int{0}, 0, api.OK},
		{"zeros", []int{0, 0, 0}, 0, api.OK},
		{"one", []int{7}, 7, api.OK},
		{"several", []int{1, 2, 3, 4, 5, 6}, 21, api.OK},
		{"the greatest", []int{api.MaxNum}, api.MaxNum, api.OK},
		{"the greatest and zeros", []int{0, api.MaxNum, 0}, api.MaxNum, api.OK},
		{"just the greatest", []int{api.MaxNum - 1, 1}, api.MaxNum, api.OK},
		{"two halves", []int{api.MaxNum / 2, api.MaxNum / 2}, api.MaxNum, api.OK},
		{"one too much", []int{api.MaxNum, 1}, 0, api.ErrOver},
		{"one too much, turned round", []int{1, api.MaxNum}, 0, api.ErrOver},
		{"halves and one", []int{api.MaxNum / 2, api.MaxNum / 2, 1}, 0, api.ErrOver},
		{"twice the greatest", []int{api.MaxNum, api.MaxNum}, 0, api.ErrOver},
		{"below zero", []int{-1}, 0, api.ErrArg},
		{"below zero, last", []int{1, 2, -1}, 0, api.ErrArg},
		{"below zero, first", []int{-1, 1, 2}, 0, api.ErrArg},
		{"no help of one below zero", []int{api.MaxNum, -1, 1}, 0, api.ErrArg},
		{"least", []int{math.MinInt}, 0, api.ErrArg},
		{"above the greatest", []int{api.MaxNum + 1}, 0, api.ErrArg},
		{"far above", []int{1, math.MaxInt}, 0, api.ErrArg},
		{"wraps to zero", []int{math.MinInt, math.MinInt}, 0, api.ErrArg},
		{"one that is wrong and makes it too much", []int{1, api.MaxNum + 1}, 0, api.ErrArg},
		{"too much, then a wrong one", []int{api.MaxNum, 1, -1}, 0, api.ErrOver},
		{"too much, then one too great", []int{api.MaxNum, 1, api.MaxNum + 1}, 0, api.ErrOver},
		{"a wrong one, then too much", []int{-1, api.MaxNum, 1}, 0, api.ErrArg},
		{"a wrong one between", []int{api.MaxNum, -1, api.MaxNum}, 0, api.ErrArg},
	}
	for _, c := range cases {
		if got, err := Add(c.l...); got != c.want || err != c.err {
			t.Errorf("%s: Add(%v) = %d, %d, want %d, %d", c.name, c.l, got, err, c.want, c.err)
		}
	}
}

func TestAddOfNothing(t *testing.T) {
	if got, err := Add(); got != 0 || err != api.OK {
		t.Errorf("Add() = %d, %d, want 0, OK", got, err)
	}
}

func TestAddOfMany(t *testing.T) {
	l := make([]int, 1<<16)
	for i := range l {
		l[i] = api.MaxNum >> 16
	}
	if got, err := Add(l...); got != api.MaxNum || err != api.OK {
		t.Errorf("so many = %d, %d, want MaxNum, OK", got, err)
	}
	l[len(l)-1]++
	if got, err := Add(l...); got != 0 || err != api.ErrOver {
		t.Errorf("one more = %d, %d, want 0, ErrOver", got, err)
	}
	// The sum of these would wrap round the int many times.
	for i := range l {
		l[i] = api.MaxNum
	}
	if got, err := Add(append(l, l...)...); got != 0 || err != api.ErrOver {
		t.Errorf("far too much = %d, %d, want 0, ErrOver", got, err)
	}
}

func TestAddLeavesItsNumbers(t *testing.T) {
	for _, l := range [][]int{{3, 1, 2}, {api.MaxNum, 1, 2}, {2, -1, 1}} {
		before := slices.Clone(l)
		got, err := Add(l...)
		if !slices.Equal(l, before) {
			t.Errorf("Add changed %v to %v", before, l)
		}
		if again, e := Add(l...); again != got || e != err {
			t.Errorf("Add(%v) = %d, %d, then %d, %d", l, got, err, again, e)
		}
	}
}

func TestAddOfEdges(t *testing.T) {
	for _, a := range edges {
		for _, b := range edges {
			want, wantErr := 0, api.OK
			switch {
			case a < 0 || a > api.MaxNum || b < 0 || b > api.MaxNum:
				wantErr = api.ErrArg
			case a > api.MaxNum-b:
				wantErr = api.ErrOver
			default:
				want = a + b
			}
			if got, err := Add(a, b); got != want || err != wantErr {
				t.Errorf("Add(%d, %d) = %d, %d, want %d, %d", a, b, got, err, want, wantErr)
			}
		}
	}
}

func TestSub(t *testing.T) {
	cases := []struct {
		a, b, want int
		err        api.Errno
	}{
		{5, 3, 2, api.OK},
		{5, 0, 5, api.OK},
		{5, 5, 0, api.OK},
		{0, 0, 0, api.OK},
		{api.MaxNum, 0, api.MaxNum, api.OK},
		{api.MaxNum, 1, api.MaxNum - 1, api.OK},
		{api.MaxNum, api.MaxNum, 0, api.OK},
		{3, 5, 0, api.ErrOver},
		{4, 5, 0, api.ErrOver},
		{0, 1, 0, api.ErrOver},
		{0, api.MaxNum, 0, api.ErrOver},
		{api.MaxNum - 1, api.MaxNum, 0, api.ErrOver},
		{-1, 0, 0, api.ErrArg},
		{0, -1, 0, api.ErrArg},
		{-1, -1, 0, api.ErrArg},
		{5, -3, 0, api.ErrArg},
		{api.MaxNum + 1, 1, 0, api.ErrArg},
		{api.MaxNum + 1, api.MaxNum + 1, 0, api.ErrArg},
		// These are also less than what is taken off them.
		{-2, -1, 0, api.ErrArg},
		{-1, 1, 0, api.ErrArg},
		{1, api.MaxNum + 1, 0, api.ErrArg},
		{math.MinInt, math.MaxInt, 0, api.ErrArg},
		{math.MaxInt, math.MinInt, 0, api.ErrArg},
	}
	for _, c := range cases {
		if got, err := Sub(c.a, c.b); got != c.want || err != c.err {
			t.Errorf("Sub(%d, %d) = %d, %d, want %d, %d", c.a, c.b, got, err, c.want, c.err)
		}
	}
}

func TestSubTakesBackWhatAddPut(t *testing.T) {
	for _, a := range edges {
		for _, b := range edges {
			sum, err := Add(a, b)
			if err != api.OK {
				continue
			}
			if got, err := Sub(sum, b); got != a || err != api.OK {
				t.Errorf("Sub(%d, %d) = %d, %d, want %d, OK", sum, b, got, err, a)
			}
		}
	}
}

func TestSet(t *testing.T) {
	cases := []struct {
		bits int
		want []int
	}{
		{0, nil},
		{0b00001, []int{0}},
		{0b10000, []int{4}},
		{0b10001, []int{0, 4}},
		{0b10110, []int{1, 2, 4}},
		{0b01010, []int{1, 3}},
		{0b11111, []int{0, 1, 2, 3, 4}},
		{0b100000, nil},
		{0b100001, []int{0}},
		{0b110000, []int{4}},
		{1 << 40, nil},
		{math.MaxInt, []int{0, 1, 2, 3, 4}},
		{math.MaxInt &^ 0b11111, nil},
		{-1, []int{0, 1, 2, 3, 4}},
		{-2, []int{1, 2, 3, 4}},
		{-32, nil},
		{-16, []int{4}},
		{math.MinInt, nil},
		{math.MinInt + 1, []int{0}},
	}
	for _, c := range cases {
		if got := Set(c.bits); !slices.Equal(got, c.want) {
			t.Errorf("Set(%b) = %v, want %v", c.bits, got, c.want)
		}
	}
}

func TestSetOfAllSets(t *testing.T) {
	for bits := -64; bits < 64; bits++ {
		back, last := 0, -1
		for _, place := range Set(bits) {
			if place <= last || place >= api.Slots {
				t.Errorf("Set(%d) = %v: %d has no right to stand there", bits, Set(bits), place)
			}
			last = place
			back |= 1 << place
		}
		if back != bits&31 {
			t.Errorf("Set(%d) = %v: makes %d", bits, Set(bits), back)
		}
	}
}

func TestSetIsNewMemory(t *testing.T) {
	first := Set(0b10110)
	for i := range first {
		first[i] = 9
	}
	if got := Set(0b10110); !slices.Equal(got, []int{1, 2, 4}) {
		t.Errorf("Set told %v, once an earlier answer had been written over", got)
	}
}

func TestMost(t *testing.T) {
	cases := []struct {
		name      string
		part, all int
		want      bool
	}{
		{"nothing of nothing", 0, 0, false},
		{"something of nothing", 31, 0, false},
		{"nothing of one", 0, 1, false},
		{"one of one", 1, 1, true},
		{"another one of one", 2, 1, false},
		{"half of two", 1, 3, false},
		{"two of two", 3, 3, true},
		{"one of three", 4, 7, false},
		{"two of three", 3, 7, true},
		{"half of four", 3, 15, false},
		{"three of four", 7, 15, true},
		{"two of five", 0b10001, 31, false},
		{"three of five", 0b10101, 31, true},
		{"all of five", 31, 31, true},
		{"others alone", 24, 7, false},
		{"one, and others", 0b11001, 7, false},
		{"two, and others", 0b11011, 7, true},
		{"half, and all others", 0b11100 | 1, 3, false},
		{"bits past the last machine are none of part", 0b1100001, 0b111, false},
		{"nor of all", 0b11, 0b1100111, true},
		{"nor of both", 0b1100001, 0b1100111, false},
		{"nor alone", 0b1100000, 0b1100000, false},
		{"below zero: all machines", -1, -1, true},
		{"below zero: three of five", -4, -1, true},
		{"below zero: two of five", -8, -1, false},
		{"below zero: none", -32, -1, false},
		{"below zero: of none", -1, -32, false},
		{"the least", math.MinInt, math.MinInt, false},
		{"the greatest", math.MaxInt, math.MaxInt, true},
	}
	for _, c := range cases {
		if got := Most(c.part, c.all); got != c.want {
			t.Errorf("%s: Most(%b, %b) = %v, want %v", c.name, c.part, c.all, got, c.want)
		}
	}
}

func TestMostOfAllSets(t *testing.T) {
	for part := -64; part < 64; part++ {
		for all := -64; all < 64; all++ {
			both, there := 0, 0
			for place := range 5 {
				if all&(1<<place) == 0 {
					continue
				}
				there++
				if part&(1<<place) != 0 {
					both++
				}
			}
			if got, want := Most(part, all), both > there-both; got != want {
				t.Errorf("Most(%d, %d) = %v, want %v", part, all, got, want)
			}
		}
	}
}

// TestNoCallPanics is P0: what the calls answer here, the other tests ask.
func TestNoCallPanics(t *testing.T) {
	Add()
	for _, a := range edges {
		Right(a)
		Add(a)
		Set(a)
		for _, b := range edges {
			Sub(a, b)
			Most(a, b)
			for _, c := range edges {
				Add(a, b, c)
			}
		}
	}
}
