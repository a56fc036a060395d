package props

import (
	"strconv"
	"strings"
	"unicode/utf8"

	"glossary/api"
)

const maxClass = 254

// kinds are the names of kinds.
var kinds = [...]string{
	api.POther: "other", api.PLetter: "letter", api.PDigit: "digit", api.PMark: "mark",
	api.PSpace: "space", api.PControl: "control", api.PJoiner: "joiner", api.PMiddle: "middle",
}

// wordsOf are the words of a line, which is handed in with its line end.
func wordsOf(line string) []string {
	line = strings.TrimSuffix(line, "\n")
	line = strings.TrimSuffix(line, "\r") // Only at the line's own end: not what then stands ahead of a remark.
	line, _, _ = strings.Cut(line, "#")
	return strings.FieldsFunc(line, func(r rune) bool { return r == ' ' || r == '\t' })
}

// rowOf is a row with its value, of the words that tell them.
func rowOf(words []string, valueOf func(string) (int, api.Errno)) (row, api.Errno) {
	if len(words) > 2 {
		return row{}, api.ErrLong
	}
	points, no := spanOf(words[0])
	if no != api.OK {
		return row{}, no
	}
	value, no := valueOf(words[1])
	if no != api.OK {
		return row{}, no
	}
	return row{points, value}, api.OK
}

// pointsOf are points, one for each word.
func pointsOf(words []string) ([]rune, api.Errno) {
	if len(words) > 1+api.MaxPiece {
		return nil, api.ErrMany
	}
	l := make([]rune, len(words))
	for i, word := range words {
		r, ok := number(word)
		switch {
		case !ok:
			return nil, api.ErrNumber
		case !utf8.ValidRune(r):
			return nil, api.ErrPoint
		}
		l[i] = r
	}
	return l, api.OK
}

// spanOf is a row's numbers.
func spanOf(word string) (api.Span, api.Errno) {
	first, second, ok := strings.Cut(word, "..")
	if !ok {
		second = first
	}
	lo, isNumber := number(first)
	hi, isNumberToo := number(second)
	switch {
	case !isNumber || !isNumberToo:
		return api.Span{}, api.ErrNumber
	case !utf8.ValidRune(lo) || !utf8.ValidRune(hi):
		return api.Span{}, api.ErrPoint
	case hi < lo:
		return api.Span{}, api.ErrArg
	}
	return api.Span{Lo: lo, Hi: hi}, api.OK
}

// number is what is told as a point is, and whether it is told so; it need be none.
func number(word string) (rune, bool) {
	n, e := strconv.ParseUint(word, 16, 24)
	return rune(n), e == nil && len(word) >= 4 && len(word) <= 6
}

// classOf is a class.
func classOf(word string) (int, api.Errno) {
	if strings.Trim(word, "0123456789") != "" || word != "0" && word[0] == '0' {
		return 0, api.ErrNumber
	}
	n, e := strconv.Atoi(word)
	if e != nil || n > maxClass { // Of digits alone nothing is wrong but that they are too many.
		return 0, api.ErrArg
	}
	return n, api.OK
}

// kindOf is the kind of a name.
func kindOf(word string) (int, api.Errno) {
	for kind, name := range kinds {
		if name == word {
			return kind, api.OK
		}
	}
	return 0, api.ErrWord
}
