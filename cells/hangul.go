package cells

// Kinds of Hangul.
const (
	noHangul = iota
	lead
	vowel
	tail
	open   // a syllable without a tail
	closed // one with a tail
)

// hangulOf is a character's kind of Hangul, by its number alone.
func hangulOf(r rune) int {
	const firstSyllable, endings = 0xac00, 28 // no tail is an ending, too
	switch {
	case r >= 0x1100 && r <= 0x1112:
		return lead
	case r >= 0x1161 && r <= 0x1175:
		return vowel
	case r >= 0x11a8 && r <= 0x11c2:
		return tail
	case r < firstSyllable || r > 0xd7a3:
		return noHangul
	case (r-firstSyllable)%endings == 0:
		return open
	}
	return closed
}

// oneSign tells whether two kinds of Hangul, one behind the other, go into one sign.
func oneSign(a, b int) bool {
	switch a {
	case lead:
		return b == lead || b == vowel || b == open || b == closed
	case vowel, open:
		return b == vowel || b == tail
	case tail, closed:
		return b == tail
	}
	return false
}
