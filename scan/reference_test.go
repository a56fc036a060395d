package scan_test

import (
	"fmt"
	"regexp"
	"strconv"
	"strings"
	"unicode/utf8"

	"glossary/api"
)

// A second way to the same things, from the document's words alone: what may stand at a byte is told by patterns, and a place by counting from the file's beginning on. The tests hold the package against it.

var (
	passedOver = regexp.MustCompile(`^(?:[ \t\r\n]|#[^\n]*)*`)
	blanks     = regexp.MustCompile(`[ \t\r\n]+`)
	signAt     = regexp.MustCompile(`^(?:<{1,3}\*?|=\*?|[&/-])`)
	optionAt   = regexp.MustCompile(`^\[([^\]]*)\]`)
	quotedAt   = regexp.MustCompile(`^'((?:[^']|'')*)'`)
	numberAt   = regexp.MustCompile(`^\\u\{([0-9a-fA-F]{1,6})\}`)
	byteAt     = regexp.MustCompile(`^\\x([89a-fA-F][0-9a-fA-F])`)
	escapedAt  = regexp.MustCompile(`^\\([^ux])`)
	plainAt    = regexp.MustCompile(`^[^ \t\r\n&<=/\-\[\]#*'\\]`)
)

// at is a fault at a byte of a file.
func at(s string, b int, no api.Errno) api.Fault {
	line, col := placeOf(s, b)
	return api.Fault{No: no, Line: line, At: col}
}

// placeOf is the line of a byte of a file, or of its end, and the how-manyth unit of it.
func placeOf(s string, b int) (int, int) {
	ahead := s[:b]
	line := ahead[strings.LastIndexByte(ahead, '\n')+1:]
	return 1 + strings.Count(ahead, "\n"), 1 + utf8.RuneCountInString(line)
}

// scanned are the tokens of a file; or what is wrong with it.
func scanned(s string) ([]api.Token, api.Fault) {
	if len(s) > 1048576 {
		return nil, api.Fault{No: api.ErrMany}
	}
	lines := strings.SplitAfter(s, "\n")
	if lines[len(lines)-1] == "" {
		lines = lines[:len(lines)-1]
	}
	if len(lines) > 65536 {
		return nil, api.Fault{No: api.ErrMany, Line: 65537, At: 1}
	}
	var l []api.Token
	for b := 0; ; {
		b += len(passedOver.FindString(s[b:]))
		kind, text, wide, fault := tokenAt(s, b)
		if fault.No != api.OK {
			return nil, fault
		}
		line, col := placeOf(s, b)
		l = append(l, api.Token{Kind: kind, Text: text, Line: line, Col: col, At: b})
		if kind == api.TEnd {
			return l, api.Fault{}
		}
		b += wide
	}
}

// tokenAt is the token that stands at a byte of a file, and how many bytes it has; or what is wrong there.
func tokenAt(s string, b int) (kind int, text string, wide int, fault api.Fault) {
	rest := s[b:]
	if rest == "" {
		return api.TEnd, "", 0, fault
	}
	if sign := signAt.FindString(rest); sign != "" {
		return api.TSign, sign, len(sign), fault
	}
	if l := optionAt.FindStringSubmatch(rest); l != nil {
		return api.TOption, strings.TrimPrefix(strings.TrimSuffix(blanks.ReplaceAllString(l[1], " "), " "), " "), len(l[0]), fault
	}
	switch rest[0] {
	case '[', ']':
		return 0, "", 0, at(s, b, api.ErrBracket)
	case '*':
		return 0, "", 0, at(s, b, api.ErrForm)
	}
	for {
		piece, n, no := pieceAt(rest[wide:])
		if no != api.OK {
			return 0, "", 0, at(s, b+wide, no)
		}
		if n == 0 {
			return api.TText, text, wide, fault
		}
		text, wide = text+piece, wide+n
	}
}

// pieceAt is the piece with which a text begins, and how many bytes it has, 0 if it begins with none; or what is wrong with it.
func pieceAt(s string) (string, int, api.Errno) {
	if strings.HasPrefix(s, "'") {
		l := quotedAt.FindStringSubmatch(s)
		// Where a further quote stands behind the match, the pattern has gone back, as it has found no end.
		if l == nil || strings.HasPrefix(s[len(l[0]):], "'") {
			return "", 0, api.ErrQuote
		}
		return strings.ReplaceAll(l[1], "''", "'"), len(l[0]), api.OK
	}
	if l := numberAt.FindStringSubmatch(s); l != nil {
		n, _ := strconv.ParseInt(l[1], 16, 64)
		if n > 0x10ffff || n >= 0xd800 && n <= 0xdfff {
			return "", 0, api.ErrEscape
		}
		return string(rune(n)), len(l[0]), api.OK
	}
	if l := byteAt.FindStringSubmatch(s); l != nil {
		n, _ := strconv.ParseInt(l[1], 16, 64)
		return string([]byte{byte(n)}), len(l[0]), api.OK
	}
	if l := escapedAt.FindStringSubmatch(s); l != nil {
		return l[1], len(l[0]), api.OK
	}
	if strings.HasPrefix(s, `\`) {
		return "", 0, api.ErrEscape
	}
	unit := plainAt.FindString(s)
	return unit, len(unit), api.OK
}

// quotedOf is a text as it stands in a file.
func quotedOf(s string) string {
	if s == "" {
		return "''"
	}
	l := ""
	for b, r := range s {
		switch {
		case r == utf8.RuneError && !strings.HasPrefix(s[b:], "\xef\xbf\xbd"):
			l += fmt.Sprintf(`\x%02x`, s[b])
		case r < 0x21 || r == 0x7f:
			l += fmt.Sprintf(`\u{%x}`, r)
		case r == '&' || r == '<' || r == '=' || r == '/' || r == '-' || r == '[' || r == ']' || r == '#' || r == '*' || r == '\'' || r == '\\':
			l += `\` + string(r)
		default:
			l += string(r)
		}
	}
	return l
}

// rows hands out all texts of up to n bytes, each one of letters.
func rows(letters string, n int, do func(string)) {
	row := make([]byte, 0, n)
	var fill func()
	fill = func() {
		do(string(row))
		if len(row) == n {
			return
		}
		for i := range len(letters) {
			row = append(row, letters[i])
			fill()
			row = row[:len(row)-1]
		}
	}
	fill()
}

// chance is a row of numbers that looks like chance and is always the same.
type chance uint64

// below is a number from 0 on, and less than n.
func (c *chance) below(n int) int {
	*c = *c*6364136223846793005 + 1442695040888963407
	return int(*c>>33) % n
}

// file is one of fewer than n of these pieces, straight behind one another.
func (c *chance) file(n int, pieces []string) string {
	var b strings.Builder
	for range c.below(n) {
		b.WriteString(pieces[c.below(len(pieces))])
	}
	return b.String()
}

// right are pieces of files that are right wherever they stand.
func right() []string {
	return []string{
		"&", "<", "<<", "<<<", "=", "/", "-", "<*", "=*", "<<<*", "[first]", "[]", "[ \t]", "[before\r\n 1 ]", "[[a'#*\\\xff]", "''", "'it''s'", "' \n#]['", "'\\'", "a", "bc", "é", "\U0001f468", "\ufffd", "\xff", "\xe2\x82", "\\u{e4}", "\\u{00004D}", "\\u{10ffff}", "\\x80", "\\xC3", "\\-", "\\ ", "\\\n", "\\'", "\\\\", "\\é", "\\\xfe", " ", "  ", "\t", "\r", "\n", "\r\n", "#\n", "# x ] * '\\\n", "#\xff\n", "\v", "\f", "\x00", "\u0085", "\u00a0", "\u2028", "{", "}", ">", "u", "x", "\"", ".",
	}
}

// wrong are pieces of files that are wrong at some places.
func wrong() []string {
	return []string{"*", "[", "]", "'", "\\", "\\u", "\\u{", "\\u{}", "\\u{d800}", "\\u{110000}", "\\u{0000041}", "\\u{g}", "\\x", "\\x7f", "\\x8", "\\xg0", "[a", "'a", "#"}
}
