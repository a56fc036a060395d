// Package utf is layer 1: see shared/doc/01-utf.md.
package utf

import (
	"iter"
	"strings"
	"unicode/utf8"

	"glossary/api"
)

// Decode is the unit at a byte, and how wide it is.
func Decode(s string, at int) (rune, int) {
	if at < 0 || at >= len(s) {
		return api.Instead, 0
	}
	return utf8.DecodeRuneInString(s[at:])
}

// Before is the unit that ends at a byte, read from behind, and how wide it is.
func Before(s string, at int) (rune, int) {
	if at < 1 || at > len(s) {
		return api.Instead, 0
	}
	return utf8.DecodeLastRuneInString(s[:at])
}

// Encode is a character's UTF-8.
func Encode(r rune) string { return string(r) }

// Full tells whether a text begins with a whole unit, whatever comes behind.
func Full(s string) bool { return utf8.FullRuneInString(s) }

// Valid tells whether a text is UTF-8.
func Valid(s string) bool {
	for at, r := range s {
		if ill(s, at, r) {
			return false
		}
	}
	return true
}

// Count is how many units a text has.
func Count(s string) int {
	n := 0
	for range s {
		n++
	}
	return n
}

// All are the units, by their bytes.
func All(s string) iter.Seq2[int, rune] {
	return func(yield func(int, rune) bool) {
		for at, r := range s {
			if !yield(at, r) {
				return
			}
		}
	}
}

// Back are the units, read from behind.
func Back(s string) iter.Seq2[int, rune] {
	return func(yield func(int, rune) bool) {
		for at := len(s); at > 0; {
			r, wide := Before(s, at)
			at -= wide
			if !yield(at, r) {
				return
			}
		}
	}
}

// Runes are the units' numbers.
func Runes(s string) []rune { return []rune(s) }

// Text is the text of numbers.
func Text(l []rune) string { return string(l) }

// Bad are what is ill-formed: where, and how many bytes belong together.
func Bad(s string) iter.Seq2[int, int] {
	return func(yield func(int, int) bool) {
		end := 0
		for at, r := range s {
			// The bytes of a piece are units of their own: those behind its first one were told with it.
			if at < end || !ill(s, at, r) {
				continue
			}
			wide := piece(s[at:])
			if !yield(at, wide) {
				return
			}
			end = at + wide
		}
	}
}

// Mend puts a text in the place of what is ill-formed.
func Mend(s, by string, whole bool) string {
	var b strings.Builder
	end := 0
	for at, wide := range Bad(s) {
		b.WriteString(s[end:at])
		end = at + wide
		times := wide
		if whole {
			times = 1
		}
		for range times {
			b.WriteString(by)
		}
	}
	b.WriteString(s[end:])
	return b.String()
}

// ill tells whether the unit at a place, whose number is r, is an ill-formed byte.
func ill(s string, at int, r rune) bool {
	if r != api.Instead {
		return false
	}
	// The number alone doesn't tell it from a U+FFFD that stands in the text.
	_, wide := Decode(s, at)
	return wide == 1
}

// piece is how many bytes belong to the piece with which a text begins, if its first byte is ill-formed.
func piece(s string) int {
	n := 1
	// As no character begins here, what is not full is a proper beginning; and each beginning of one is one.
	for n < len(s) && !Full(s[:n+1]) {
		n++
	}
	return n
}
