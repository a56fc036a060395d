package ranges_test

import (
	"fmt"
	"regexp"
	"slices"
	"strconv"

	"glossary/api"
)

// A second way to the same things, from the document's words alone: a set is one mark for each number, and all is told by going from number to number. The tests hold the package against it.

// marks tell of each number from 0 on whether it is in the set.
type marks []bool

// edges are the numbers at which points begin and end, and those next to them.
var edges = []rune{0, 1, 2, 0xd7fe, 0xd7ff, 0xe000, 0xe001, 0x10fffe, 0x10ffff, 0x110080, 0x110081, 0x1100fe, 0x1100ff}

// beside are numbers that are no points.
var beside = []rune{-1 << 31, -0x110000, -1, 0xd800, 0xd801, 0xdbff, 0xdc00, 0xdfff, 0x110000, 0x110001, 0x110061, 0x11007f, 0x110100, 0x110180, 1<<31 - 1}

func isPoint(r rune) bool {
	return r >= 0 && r <= 0xd7ff || r >= 0xe000 && r <= 0x10ffff || r >= 0x110080 && r <= 0x1100ff
}

// behind is the point behind another, and a number that is none behind the last.
func behind(r rune) rune {
	for r++; r <= 0x1100ff && !isPoint(r); r++ {
	}
	return r
}

// marksOf are those of spans whose ends are points.
func marksOf(l []api.Span) marks {
	m := make(marks, 0x110100)
	for _, x := range l {
		for r := x.Lo; r <= x.Hi; r++ {
			m[r] = isPoint(r)
		}
	}
	return m
}

// made is what comes of two sets, number by number.
func made(a, b marks, in func(a, b bool) bool) marks {
	m := make(marks, len(a))
	for r := range a {
		m[r] = isPoint(rune(r)) && in(a[r], b[r])
	}
	return m
}

// points are those that are marked.
func (m marks) points() []rune {
	l := make([]rune, 0, len(m))
	for r, in := range m {
		if in {
			l = append(l, rune(r))
		}
	}
	return l
}

// spansOf are the spans of rising points.
func spansOf(l []rune) []api.Span {
	var spans []api.Span
	for i, r := range l {
		if i > 0 && behind(l[i-1]) == r {
			spans[len(spans)-1].Hi = r
		} else {
			spans = append(spans, api.Span{Lo: r, Hi: r})
		}
	}
	return spans
}

// formOf is the one form of a point.
func formOf(r rune) string {
	if r > 0x10ffff {
		return fmt.Sprintf(`\x%02x`, r-0x110000)
	}
	return fmt.Sprintf(`\u{%x}`, r)
}

// printedOf is the one form of a set that has these spans.
func printedOf(l []api.Span) string {
	s := "["
	for _, x := range l {
		s += formOf(x.Lo)
		if x.Hi != x.Lo {
			s += "-" + formOf(x.Hi)
		}
	}
	return s + "]"
}

var (
	character = regexp.MustCompile(`^\\u\{(0|[1-9a-f][0-9a-f]{0,5})\}`)
	illFormed = regexp.MustCompile(`^\\x([89a-f][0-9a-f])`)
)

// pointIn is the point with whose form a text begins, and how many bytes that has, 0 if it begins with none.
func pointIn(s string) (rune, int) {
	if l := character.FindStringSubmatch(s); l != nil {
		n, _ := strconv.ParseInt(l[1], 16, 64)
		if n <= 0x10ffff && isPoint(rune(n)) {
			return rune(n), len(l[0])
		}
	}
	if l := illFormed.FindStringSubmatch(s); l != nil {
		n, _ := strconv.ParseInt(l[1], 16, 64)
		return 0x110000 + rune(n), len(l[0])
	}
	return 0, 0
}

// parsedOf are the spans that a text tells; or what is wrong with it, and where.
func parsedOf(s string) (l []api.Span, no api.Errno, at int) {
	if s == "" || s[0] != '[' {
		return nil, api.ErrBracket, 0
	}
	for at = 1; ; {
		switch {
		case at == len(s):
			return nil, api.ErrBracket, at
		case s[at] == ']' && at+1 < len(s):
			return nil, api.ErrLong, at + 1
		case s[at] == ']':
			return l, api.OK, 0
		}
		lo, n := pointIn(s[at:])
		if n == 0 {
			return nil, api.ErrEscape, at
		}
		x, from := api.Span{Lo: lo, Hi: lo}, at
		at += n
		if at < len(s) && s[at] == '-' {
			at++
			if x.Hi, n = pointIn(s[at:]); n == 0 {
				return nil, api.ErrEscape, at
			}
			at += n
			if x.Hi <= x.Lo {
				return nil, api.ErrForm, from
			}
		}
		if len(l) > 0 && x.Lo <= behind(l[len(l)-1].Hi) {
			return nil, api.ErrForm, from
		}
		l = append(l, x)
	}
}

// chance is a row of numbers that looks like chance and is always the same.
type chance uint64

func (c *chance) below(n int) int {
	*c = *c*6364136223846793005 + 1442695040888963407
	return int(uint64(*c)>>33) % n
}

// point is any one, often one of the edges or near the one that is handed in.
func (c *chance) point(near rune) rune {
	for {
		r := edges[c.below(len(edges))]
		switch c.below(4) {
		case 0:
			r = rune(c.below(0x110100))
		case 1:
			r = near + rune(c.below(9)) - 4
		}
		if isPoint(r) {
			return r
		}
	}
}

// spans are up to n of them, in any order and over one another.
func (c *chance) spans(n int) []api.Span {
	var l []api.Span
	near := rune(0)
	for range c.below(n + 1) {
		a := c.point(near)
		b := c.point(a)
		if c.below(2) == 0 {
			b = a
		}
		l = append(l, api.Span{Lo: min(a, b), Hi: max(a, b)})
		near = b
	}
	return l
}

// some are lists of spans: the empty one, the whole one, single ones at each edge and from each edge to each, and others.
func some() [][]api.Span {
	l := [][]api.Span{nil, {}, {{Lo: 0, Hi: 0x1100ff}}, {{Lo: 0, Hi: 0x10ffff}}, {{Lo: 0x110080, Hi: 0x1100ff}}}
	for i, a := range edges {
		for _, b := range edges[i:] {
			l = append(l, []api.Span{{Lo: a, Hi: b}})
		}
	}
	c := chance(3)
	for range 40 {
		l = append(l, c.spans(12))
	}
	return l
}

// reversed is a list from behind.
func reversed(l []api.Span) []api.Span {
	l = slices.Clone(l)
	slices.Reverse(l)
	return l
}
