package scan_test

import (
	"errors"
	"strings"
	"testing"

	"glossary/api"
	"glossary/scan"
)

// comesBack stops the test at a text that isn't quoted as it should be, or isn't what its quoted form is read as.
func comesBack(t *testing.T, s string) {
	t.Helper()
	q := scan.Quote(s)
	if want := quotedOf(s); q != want {
		t.Fatalf("Quote(%q) = %q; want %q", s, q, want)
	}
	l, e := scan.Scan(q)
	if e != nil || len(l) != 2 || l[0] != (api.Token{Kind: api.TText, Text: s, Line: 1, Col: 1}) || l[1].Kind != api.TEnd || l[1].At != len(q) {
		t.Fatalf("Quote(%q) = %q, which is read as %v, %v", s, q, l, e)
	}
}

// P5.2: the chapter's examples, the ends of what is told by number, and each sign's unit.
func TestQuote(t *testing.T) {
	for s, want := range map[string]string{
		"a-b": `a\-b`, " ": `\u{20}`, "é": "é", "\xff": `\xff`, "": "''",
		"\x00": `\u{0}`, "\x0f": `\u{f}`, "\x10": `\u{10}`, "\x1f": `\u{1f}`, "\n": `\u{a}`, "\t\r": `\u{9}\u{d}`, "!": "!", "~": "~", "\x7f": `\u{7f}`, "\u0080": "\u0080", "\u0085\u00a0": "\u0085\u00a0", "\x80": `\x80`, "\ufffd": "\ufffd", "\U0010ffff": "\U0010ffff",
		"&": `\&`, "<": `\<`, "=": `\=`, "/": `\/`, "-": `\-`, "[": `\[`, "]": `\]`, "#": `\#`, "*": `\*`, "'": `\'`, `\`: `\\`,
		"<<<*": `\<\<\<\*`, "''": `\'\'`, `\u{41}`: `\\u{41}`, `\x80`: `\\x80`, ">|+,;:!\"$%()?@^_`{}~.": ">|+,;:!\"$%()?@^_`{}~.",
		"\xe2\x82": `\xe2\x82`, "\xe2\x82\xac\xe2": `€\xe2`, "\xed\xa0\x80": `\xed\xa0\x80`, "\xc3\xa9\xa9": `é\xa9`, "\ufffd\xef\xbf": `�\xef\xbf`, "a b": `a\u{20}b`,
	} {
		if got := scan.Quote(s); got != want {
			t.Errorf("Quote(%q) = %q; want %q", s, got, want)
		}
		comesBack(t, s)
	}
}

// P5.2, P5.3: every character, and every byte, alone and between others.
func TestEveryUnit(t *testing.T) {
	for r := rune(0); r <= 0x10ffff; r++ {
		if r < 0xd800 || r > 0xdfff {
			comesBack(t, string(r))
		}
	}
	for b := range 256 {
		unit := string([]byte{byte(b)})
		for _, s := range []string{unit, "a" + unit, unit + "0", unit + unit, "é" + unit + "é", "\xc3" + unit, unit + "\x80", "\\" + unit, "\ufffd" + unit} {
			comesBack(t, s)
		}
	}
}

// P5.2, P5.3: texts of all kinds.
func TestQuoteThereAndBack(t *testing.T) {
	rows("a '\\ux80{}", 4, func(s string) { comesBack(t, s) })
	rows(" \n&<=/-[]#*'\\", 3, func(s string) { comesBack(t, s) })
	rows("a\x80\xa9\xc3\xe2\x82\xac\xff", 5, func(s string) { comesBack(t, s) })
	c := chance(9)
	pieces := append(right(), wrong()...)
	for range 4000 {
		s := c.file(40, pieces)
		comesBack(t, s)
		comesBack(t, scan.Quote(s))
		// Quoted, it may stand anywhere in a file.
		has(t, "&"+scan.Quote(s)+"\n< "+scan.Quote(s)+"/'a'", sign("&"), text(s), sign("<"), text(s), sign("/"), text("a"))
	}
}

// P5.3: texts whose quoted form is as long as a file may be, and longer ones.
func TestQuoteLong(t *testing.T) {
	for _, x := range []struct {
		unit string
		wide int // of the unit once it is quoted
	}{{"a", 1}, {"é", 2}, {"-", 2}, {"\xff", 4}, {"\x01", 5}, {"\x7f", 6}} {
		n := maxSource / x.wide
		s := strings.Repeat(x.unit, n)
		q := scan.Quote(s)
		if l, e := scan.Scan(q); len(q) != n*x.wide || e != nil || len(l) != 2 || l[0].Text != s {
			t.Errorf("%q, %d times: %d bytes, %v", x.unit, n, len(q), e)
		}
		if _, e := scan.Scan(scan.Quote(s + x.unit)); !errors.Is(e, api.ErrMany) {
			t.Errorf("%q, %d times: %v", x.unit, n+1, e)
		}
	}
	if q := scan.Quote(strings.Repeat("\x1f\xff", api.MaxText/2)); len(q) != api.MaxText/2*10 {
		t.Errorf("the longest text: %d bytes", len(q))
	}
}
