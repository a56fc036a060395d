package weights

import "math/bits"

const (
	// mostWide is how many bytes the greatest number has, without the one that tells how many they are.
	mostWide = 8
	// noWide is the byte that tells of none. Those below are left to what parts numbers from one another.
	noWide = 2
)

// Bytes is a number as bytes, in the order of numbers.
func Bytes(n uint64) string {
	var digits [mostWide]byte
	for i := range digits {
		digits[mostWide-1-i] = byte(n >> (8 * i))
	}
	wide := (bits.Len64(n) + 7) / 8
	whole := [1 + mostWide]byte{byte(noWide + wide)}
	copy(whole[1:], digits[mostWide-wide:])
	return string(whole[:1+wide])
}

// Read is the number at a place, and how wide it is.
func Read(s string, at int) (uint64, int, bool) {
	if at < 0 || at >= len(s) || s[at] < noWide || s[at] > noWide+mostWide {
		return 0, 0, false
	}
	wide := int(s[at] - noWide)
	digits := s[at+1:]
	if wide > len(digits) || wide > 0 && digits[0] == 0 {
		return 0, 0, false
	}
	var n uint64
	for i := range wide {
		n = n<<8 | uint64(digits[i])
	}
	return n, 1 + wide, true
}
