package ranges

import (
	"strconv"
	"strings"

	"glossary/api"
)

// Print is its one form.
func Print(s *Set) string {
	var b strings.Builder
	b.WriteByte('[')
	for x := range s.spans() {
		b.WriteString(printed(x.Lo))
		if x.Hi != x.Lo {
			b.WriteByte('-')
			b.WriteString(printed(x.Hi))
		}
	}
	b.WriteByte(']')
	return b.String()
}

// Parse reads a set.
func Parse(s string) (*Set, error) {
	if !strings.HasPrefix(s, "[") {
		return nil, api.Fault{No: api.ErrBracket, At: 0}
	}
	var l []run
	at := 1
	for at < len(s) && s[at] != ']' {
		x, behind, e := parsedSpan(s, at)
		if e != nil {
			return nil, e
		}
		if len(l) > 0 && x.from <= l[len(l)-1].to {
			return nil, api.Fault{No: api.ErrForm, At: at}
		}
		l = append(l, x)
		at = behind
	}
	switch {
	case at == len(s):
		return nil, api.Fault{No: api.ErrBracket, At: at}
	case at+1 < len(s):
		return nil, api.Fault{No: api.ErrLong, At: at + 1}
	}
	return &Set{l}, nil
}

// parsedSpan is the span that is written at a byte, and the byte behind it.
func parsedSpan(s string, at int) (run, int, error) {
	lo, behind, e := parsedPoint(s, at)
	if e != nil {
		return run{}, 0, e
	}
	hi := lo
	if strings.HasPrefix(s[behind:], "-") {
		hi, behind, e = parsedPoint(s, behind+1)
		if e != nil {
			return run{}, 0, e
		}
		if hi <= lo {
			return run{}, 0, api.Fault{No: api.ErrForm, At: at}
		}
	}
	return run{lo, hi + 1}, behind, nil
}

// parsedPoint is the number among all points of the one that is written at a byte, and the byte behind it.
func parsedPoint(s string, at int) (int, int, error) {
	r := spelt(s[at:])
	n, isPoint := number(r)
	// Other spellings of the same point are refused by holding it against its one form.
	if !isPoint || !strings.HasPrefix(s[at:], printed(r)) {
		return 0, 0, api.Fault{No: api.ErrEscape, At: at}
	}
	return n, at + len(printed(r)), nil
}

// spelt is the point that a text may begin with, if it begins with one at all.
func spelt(s string) rune {
	first, digits := rune(0), ""
	if rest, ok := strings.CutPrefix(s, `\u{`); ok {
		digits, _, _ = strings.Cut(rest, "}")
	} else if rest, ok := strings.CutPrefix(s, `\x`); ok {
		first, digits = api.Ill, rest[:min(2, len(rest))]
	}
	n, e := strconv.ParseUint(digits, 16, 21)
	if e != nil {
		return -1
	}
	return first + rune(n)
}

// printed is the one form of a point.
func printed(r rune) string {
	if r > api.MaxChar {
		return `\x` + strconv.FormatInt(int64(r-api.Ill), 16)
	}
	return `\u{` + strconv.FormatInt(int64(r), 16) + `}`
}
