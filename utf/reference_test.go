package utf_test

import "sync"

// A second way to the same things, from the words of the chapter and of RFC 3629 alone, without Go's own conversions: the tests hold the package against it.

type unit struct {
	at   int
	r    rune
	wide int
	ill  bool
}

type piece struct{ at, wide int }

func isChar(r rune) bool {
	return r >= 0 && r <= 0x10ffff && (r < 0xd800 || r > 0xdfff)
}

// bytesOf is the UTF-8 of a character.
func bytesOf(r rune) string {
	tail := func(shift int) byte { return 0x80 | byte(r>>shift)&0x3f }
	switch {
	case r < 0x80:
		return string([]byte{byte(r)})
	case r < 0x800:
		return string([]byte{0xc0 | byte(r>>6), tail(0)})
	case r < 0x10000:
		return string([]byte{0xe0 | byte(r>>12), tail(6), tail(0)})
	}
	return string([]byte{0xf0 | byte(r>>18), tail(12), tail(6), tail(0)})
}

// charOf is the character of which s is the UTF-8, if there is one.
func charOf(s string) (rune, bool) {
	var r rune
	switch len(s) {
	case 1:
		r = rune(s[0])
	case 2:
		r = rune(s[0]&0x1f)<<6 | rune(s[1]&0x3f)
	case 3:
		r = rune(s[0]&0xf)<<12 | rune(s[1]&0x3f)<<6 | rune(s[2]&0x3f)
	case 4:
		r = rune(s[0]&7)<<18 | rune(s[1]&0x3f)<<12 | rune(s[2]&0x3f)<<6 | rune(s[3]&0x3f)
	default:
		return 0, false
	}
	return r, isChar(r) && bytesOf(r) == s
}

// heads are all proper beginnings of all characters' UTF-8.
var heads = sync.OnceValue(func() map[string]bool {
	m := map[string]bool{}
	for r := rune(0); r <= 0x10ffff; r++ {
		if !isChar(r) {
			continue
		}
		s := bytesOf(r)
		for n := 1; n < len(s); n++ {
			if !m[s[:n]] {
				m[s[:n]] = true
			}
		}
	}
	return m
})

// unitAt is the unit of s at a byte of it.
func unitAt(s string, at int) unit {
	for n := 1; n <= 4 && at+n <= len(s); n++ {
		if r, ok := charOf(s[at : at+n]); ok {
			return unit{at, r, n, false}
		}
	}
	return unit{at, 0xfffd, 1, true}
}

// unitTo is the unit that ends ahead of a byte of s, read from behind.
func unitTo(s string, to int) unit {
	for n := 1; n <= 4 && n <= to; n++ {
		if r, ok := charOf(s[to-n : to]); ok {
			return unit{to - n, r, n, false}
		}
	}
	return unit{to - 1, 0xfffd, 1, true}
}

func unitsOf(s string) []unit {
	var l []unit
	for at := 0; at < len(s); {
		u := unitAt(s, at)
		l = append(l, u)
		at += u.wide
	}
	return l
}

func numbersOf(s string) []rune {
	var l []rune
	for _, u := range unitsOf(s) {
		l = append(l, u.r)
	}
	return l
}

func illIn(s string) int {
	n := 0
	for _, u := range unitsOf(s) {
		if u.ill {
			n++
		}
	}
	return n
}

func piecesOf(s string) []piece {
	var l []piece
	for at := 0; at < len(s); {
		u := unitAt(s, at)
		if !u.ill {
			at += u.wide
			continue
		}
		wide := 1
		for n := 1; n <= 4 && at+n <= len(s); n++ {
			if heads()[s[at:at+n]] {
				wide = n
			}
		}
		l = append(l, piece{at, wide})
		at += wide
	}
	return l
}

func mendedOf(s, by string, whole bool) string {
	var out []byte
	l := piecesOf(s)
	for at := 0; at < len(s); {
		if len(l) == 0 || l[0].at > at {
			out = append(out, s[at])
			at++
			continue
		}
		for n := 0; n < l[0].wide; n++ {
			if n == 0 || !whole {
				out = append(out, by...)
			}
		}
		at += l[0].wide
		l = l[1:]
	}
	return string(out)
}

// rows hands out all texts of so many bytes, each byte one of letters.
func rows(letters string, n int, do func(string)) {
	row := make([]byte, n)
	var fill func(int)
	fill = func(at int) {
		if at == n {
			do(string(row))
			return
		}
		for i := range len(letters) {
			row[at] = letters[i]
			fill(at + 1)
		}
	}
	fill(0)
}

// texts hands out all texts of up to two bytes, and longer ones of the bytes at which UTF-8 turns from one thing to another.
func texts(do func(string)) {
	all := make([]byte, 256)
	for i := range all {
		all[i] = byte(i)
	}
	rows(string(all), 0, do)
	rows(string(all), 1, do)
	rows(string(all), 2, do)
	rows("\x00a\x7f\x80\x8f\x90\x9f\xa0\xbd\xbf\xc0\xc1\xc2\xdf\xe0\xe1\xec\xed\xee\xef\xf0\xf1\xf3\xf4\xf5\xff", 3, do)
	rows("a\x80\x8f\x90\x9f\xa0\xbf\xc1\xc2\xe0\xe1\xed\xef\xf0\xf1\xf4\xf5", 4, do)
	rows("a\x80\x90\xa0\xc3\xe1\xf1\xf4", 5, do)
	rows("a\x8f\x9f\xc3\xed\xf0", 6, do)
	for _, s := range longer() {
		do(s)
	}
}

// longer are texts in which all lengths stand side by side, well-formed and not.
func longer() []string {
	return []string{
		"abc", "a\xe2\x82b\xc3\xa9", "\xff\xfe😀\x80", "\xed\xa0\x80\xef\xbf\xbd", "\xef\xbf\xbd\xef\xbf\xef\xbf\xbd",
		"\xf4\x8f\xbf\xbf\xf4\x90\x80\x80\xc2\x80", "Ääß€𝄞\x00\U0010ffff", "\xf0\x9f\x98\xf0\x9f\x98\x80\x80\xe2", "\xed\xa0\xbd\xed\xb8\x80é",
	}
}
