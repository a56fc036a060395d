package scan

import (
	"strconv"
	"strings"
	"unicode/utf8"

	"glossary/api"
	"glossary/utf"
)

// Quote is a text as it stands in such a file.
func Quote(s string) string {
	if s == "" {
		return "''"
	}
	var b strings.Builder
	for at, r := range s {
		_, wide := utf.Decode(s, at)
		b.WriteString(escaped(s[at:at+wide], r))
	}
	return b.String()
}

// escaped is a unit, whose number is r, as it stands in a file.
func escaped(unit string, r rune) string {
	switch {
	case r == api.Instead && len(unit) == 1: // A U+FFFD that stands in the text is three bytes wide.
		return `\x` + strconv.FormatInt(int64(unit[0]), 16)
	case r <= ' ' || r == 0x7f:
		return `\u{` + strconv.FormatInt(int64(r), 16) + `}`
	case isSigns(r):
		return `\` + unit
	}
	return unit
}

// unescaped is the text of the escape with which s begins, and how many bytes of s it has: none, if there is no such escape.
func unescaped(s string) (string, int) {
	r, wide := utf.Decode(s, 1)
	switch {
	case wide == 0:
		return "", 0
	case r == 'u':
		return character(s)
	case r == 'x':
		return illFormed(s)
	}
	return s[1 : 1+wide], 1 + wide
}

// character is what unescaped is, of an escape that tells a character's number.
func character(s string) (string, int) {
	rest, opened := strings.CutPrefix(s, `\u{`)
	digits, _, closed := strings.Cut(rest, "}")
	n, e := strconv.ParseUint(digits, 16, 24)
	if !opened || !closed || e != nil || len(digits) > 6 || !utf8.ValidRune(rune(n)) {
		return "", 0
	}
	return utf.Encode(rune(n)), len(`\u{}`) + len(digits)
}

// illFormed is what unescaped is, of an escape that tells a byte.
func illFormed(s string) (string, int) {
	if len(s) < 4 {
		return "", 0
	}
	n, e := strconv.ParseUint(s[2:4], 16, 8)
	if e != nil || n < utf8.RuneSelf {
		return "", 0
	}
	return string([]byte{byte(n)}), 4
}
