package props

import "glossary/api"

// The first of Hangul's syllables, leads, vowels and tails, and how many there are.
const (
	firstSyllable, syllables = 0xac00, leads * vowels * endings
	firstLead, leads         = 0x1100, 19
	firstVowel, vowels       = 0x1161, 21
	firstTail, tails         = 0x11a8, 27
	endings                  = 1 + tails // none is one of them
)

func isSyllable(r rune) bool { return r >= firstSyllable && r < firstSyllable+syllables }
func isLead(r rune) bool     { return r >= firstLead && r < firstLead+leads }
func isVowel(r rune) bool    { return r >= firstVowel && r < firstVowel+vowels }
func isTail(r rune) bool     { return r >= firstTail && r < firstTail+tails }

// isHangul tells whether a point decomposes by reckoning alone.
func isHangul(r rune) bool { return isSyllable(r) || isLead(r) || isVowel(r) || isTail(r) }

// parts are a syllable's lead and vowel, and its tail, if it has one.
func parts(r rune) []rune {
	n := r - firstSyllable
	l := []rune{firstLead + n/endings/vowels, firstVowel + n/endings%vowels}
	if ending := n % endings; ending != 0 {
		l = append(l, firstTail+ending-1)
	}
	return l
}

// syllable is the syllable that two points make, if they make one.
func syllable(a, b rune) (rune, bool) {
	switch {
	case isLead(a) && isVowel(b):
		return firstSyllable + ((a-firstLead)*vowels+b-firstVowel)*endings, true
	case isSyllable(a) && (a-firstSyllable)%endings == 0 && isTail(b):
		return a + 1 + b - firstTail, true
	}
	return 0, false
}

// hangulClasses are the rows of the classes that hold whatever lines say.
func hangulClasses() []row {
	return []row{
		{api.Span{Lo: firstSyllable, Hi: firstSyllable + syllables - 1}, 0},
		{api.Span{Lo: firstLead, Hi: firstLead + leads - 1}, 0},
		{api.Span{Lo: firstVowel, Hi: firstVowel + vowels - 1}, 0},
		{api.Span{Lo: firstTail, Hi: firstTail + tails - 1}, 0},
	}
}

// syllableKinds are the rows of the kinds that hold as long as no line says something else.
func syllableKinds() []row {
	return []row{{api.Span{Lo: firstSyllable, Hi: firstSyllable + syllables - 1}, api.PLetter}}
}
