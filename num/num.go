// Package num is layer 1: numbers and sets.
package num

import (
	"legatee/api"
)

// Right tells whether n may be a number: 0 up to MaxNum.
func Right(n int) bool {
	return n >= 0 && n <= api.MaxNum
}

// Add answers the sum of l. The numbers are taken one behind the other, so
// the first of them that is wrong, or too much, decides which error it is.
func Add(l ...int) (int, api.Errno) {
	sum := 0
	for _, n := range l {
		if !Right(n) {
			return 0, api.ErrArg
		}
		// The sum was at most MaxNum before, as is n: it can't wrap round.
		sum += n
		if sum > api.MaxNum {
			return 0, api.ErrOver
		}
	}
	return sum, api.OK
}

// Sub answers a less b.
func Sub(a, b int) (int, api.Errno) {
	if !Right(a) || !Right(b) {
		return 0, api.ErrArg
	}
	if a < b {
		return 0, api.ErrOver
	}
	return a - b, api.OK
}

// Set answers a set's members: the places of bits that are 1, rising. What
// stands at Slots or above is no machine's, and is passed over.
func Set(bits int) []int {
	var members []int
	for place := range api.Slots {
		if bits>>place&1 == 1 {
			members = append(members, place)
		}
	}
	return members
}

// Most tells whether more than half of the members of all are in part too.
func Most(part, all int) bool {
	return 2*len(Set(part&all)) > len(Set(all))
}
