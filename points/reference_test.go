package points_test

// A second way to the same things, from the words of the document and of RFC 3629 alone, each answer reckoned anew from the text's first byte on: the tests hold the package against it.

type unit struct {
	at, wide int
	point    rune
	ill      bool
}

// place is all that is told of one byte.
type place struct {
	unit   int
	begins bool
	wide   int
	line   int
	column int
}

func isChar(r rune) bool {
	return r >= 0 && r <= 0x10ffff && (r < 0xd800 || r > 0xdfff)
}

func isPoint(r rune) bool {
	return r >= 0 && r <= 0xd7ff || r >= 0xe000 && r <= 0x10ffff || r >= 0x110080 && r <= 0x1100ff
}

// bytesOf are the bytes of a point.
func bytesOf(r rune) string {
	tail := func(shift int) byte { return 0x80 | byte(r>>shift)&0x3f }
	switch {
	case r > 0x10ffff:
		return string([]byte{byte(r - 0x110000)})
	case r < 0x80:
		return string([]byte{byte(r)})
	case r < 0x800:
		return string([]byte{0xc0 | byte(r>>6), tail(0)})
	case r < 0x10000:
		return string([]byte{0xe0 | byte(r>>12), tail(6), tail(0)})
	}
	return string([]byte{0xf0 | byte(r>>18), tail(12), tail(6), tail(0)})
}

// charOf is the character of which s is the UTF-8, if there is one.
func charOf(s string) (rune, bool) {
	var r rune
	switch len(s) {
	case 1:
		r = rune(s[0])
	case 2:
		r = rune(s[0]&0x1f)<<6 | rune(s[1]&0x3f)
	case 3:
		r = rune(s[0]&0xf)<<12 | rune(s[1]&0x3f)<<6 | rune(s[2]&0x3f)
	case 4:
		r = rune(s[0]&7)<<18 | rune(s[1]&0x3f)<<12 | rune(s[2]&0x3f)<<6 | rune(s[3]&0x3f)
	default:
		return 0, false
	}
	return r, isChar(r) && bytesOf(r) == s
}

// unitAt is the unit of s at a byte of it.
func unitAt(s string, at int) unit {
	for n := 1; n <= 4 && at+n <= len(s); n++ {
		if r, ok := charOf(s[at : at+n]); ok {
			return unit{at, n, r, false}
		}
	}
	return unit{at, 1, 0x110000 + rune(s[at]), true}
}

func unitsOf(s string) []unit {
	var l []unit
	for at := 0; at < len(s); {
		u := unitAt(s, at)
		l = append(l, u)
		at += u.wide
	}
	return l
}

func pointsOf(s string) []rune {
	var l []rune
	for _, u := range unitsOf(s) {
		l = append(l, u.point)
	}
	return l
}

// placeOf is what there is to tell of a byte of a text with these units, be it within the text or not.
func placeOf(l []unit, at int) place {
	p := place{line: 1, column: 1}
	if at < 0 {
		p.begins = true
		return p
	}
	for _, u := range l {
		if at < u.at+u.wide {
			p.begins = at == u.at
			return p
		}
		p.unit++
		p.wide++
		if u.point > 0xffff && !u.ill {
			p.wide++
		}
		p.column++
		if u.point == 0x0a {
			p.line, p.column = p.line+1, 1
		}
	}
	p.begins = true
	return p
}

// rows hands out all texts of so many bytes, each byte one of letters.
func rows(letters string, n int, do func(string)) {
	row := make([]byte, n)
	var fill func(int)
	fill = func(at int) {
		if at == n {
			do(string(row))
			return
		}
		for i := range len(letters) {
			row[at] = letters[i]
			fill(at + 1)
		}
	}
	fill(0)
}

// texts hands out all texts of up to two bytes, and longer ones of the bytes at which UTF-8 turns from one thing to another.
func texts(do func(string)) {
	all := make([]byte, 256)
	for i := range all {
		all[i] = byte(i)
	}
	rows(string(all), 0, do)
	rows(string(all), 1, do)
	rows(string(all), 2, do)
	rows("\x00\na\x7f\x80\x8f\x90\x9f\xa0\xbd\xbf\xc1\xc2\xdf\xe0\xe1\xed\xef\xf0\xf1\xf4\xf5\xff", 3, do)
	rows("\n\x80\x8f\x90\xa0\xbf\xc2\xe0\xed\xef\xf0\xf1\xf4", 4, do)
	rows("\n\x80\x90\xc3\xe1\xf1", 5, do)
	rows("\n\x9f\xc3\xed\xf0", 6, do)
	for _, s := range longer() {
		do(s)
	}
}

// longer are texts in which all lengths stand side by side, well-formed and not.
func longer() []string {
	return []string{
		"abc", "a\xe2\x82b\xc3\xa9", "\xff\xfe😀\x80", "\xed\xa0\x80\xef\xbf\xbd", "\xef\xbf\xbd\xef\xbf\xef\xbf\xbd",
		"\xf4\x8f\xbf\xbf\xf4\x90\x80\x80\xc2\x80", "Ääß€𝄞\x00\U0010ffff", "\xf0\x9f\x98\xf0\x9f\x98\x80\x80\xe2", "\xed\xa0\xbd\xed\xb8\x80é",
		"a\U0001f468\né", "aé\xff\xe2\x82€\xed\xa0\x80", "\n\n😀\n\r\n\xff\n", "\xc3\n\xa9\n\xe2\x82\n\u2028\u0085\v\f\r",
	}
}
