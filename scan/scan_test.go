package scan_test

import (
	"errors"
	"slices"
	"strings"
	"sync"
	"testing"

	"glossary/api"
	"glossary/scan"
)

// The calls have the signatures that the chapter lists.
var (
	_ func(string) ([]api.Token, error) = scan.Scan
	_ func(string) string               = scan.Quote
)

// A token's kind and its text, without its place.
type plain struct {
	kind int
	text string
}

func plains(l []api.Token) []plain {
	var p []plain
	for _, x := range l {
		p = append(p, plain{x.Kind, x.Text})
	}
	return p
}

func sign(s string) plain   { return plain{api.TSign, s} }
func option(s string) plain { return plain{api.TOption, s} }
func text(s string) plain   { return plain{api.TText, s} }

// tokens are those of a file that is right.
func tokens(t *testing.T, s string) []api.Token {
	t.Helper()
	l, e := scan.Scan(s)
	if e != nil {
		t.Fatalf("Scan(%q): %v", s, e)
	}
	return l
}

// has checks that a file has just these tokens, and behind them the end.
func has(t *testing.T, s string, want ...plain) {
	t.Helper()
	if got := plains(tokens(t, s)); !slices.Equal(got, append(want, plain{kind: api.TEnd})) {
		t.Errorf("Scan(%q): %v", s, got)
	}
}

// refused tells what is wrong with an answer that should be this fault and nothing else.
func refused(l []api.Token, e error, want api.Fault) string {
	var f api.Fault
	switch {
	case len(l) != 0:
		return "there are tokens beside the error"
	case !errors.As(e, &f):
		return "no place is told"
	case f != want:
		return "another place, or another number"
	}
	for n := api.OK; n <= api.ErrBracket; n++ {
		if errors.Is(e, n) != (n == want.No) {
			return "it is told to be what it isn't, or not what it is: " + n.Error()
		}
	}
	return ""
}

// wrongWith tells what is wrong with what Scan tells of a file, held against the second way.
func wrongWith(s string) string {
	l, e := scan.Scan(s)
	want, fault := scanned(s)
	switch {
	case fault.No != api.OK:
		return refused(l, e, fault)
	case e != nil:
		return "it is refused"
	case !slices.Equal(l, want):
		return "other tokens"
	}
	return ""
}

// check stops the test at the first file of which something is told that is wrong.
func check(t *testing.T, s string) {
	t.Helper()
	if wrong := wrongWith(s); wrong != "" {
		l, e := scan.Scan(s)
		want, fault := scanned(s)
		t.Fatalf("Scan(%q): %s: %v, %v; want %v, %v", s, wrong, l, e, want, fault)
	}
}

// P5.1, P5.6: the chapter's examples.
func TestExamples(t *testing.T) {
	for s, want := range map[string][]api.Token{
		"& a <<< 'b c' / ch # x": {
			{Kind: api.TSign, Text: "&", Line: 1, Col: 1, At: 0}, {Kind: api.TText, Text: "a", Line: 1, Col: 3, At: 2}, {Kind: api.TSign, Text: "<<<", Line: 1, Col: 5, At: 4},
			{Kind: api.TText, Text: "b c", Line: 1, Col: 9, At: 8}, {Kind: api.TSign, Text: "/", Line: 1, Col: 15, At: 14}, {Kind: api.TText, Text: "ch", Line: 1, Col: 17, At: 16}, {Kind: api.TEnd, Line: 1, Col: 23, At: 22},
		},
		"&[before  1]a<*b-d=x": {
			{Kind: api.TSign, Text: "&", Line: 1, Col: 1, At: 0}, {Kind: api.TOption, Text: "before 1", Line: 1, Col: 2, At: 1}, {Kind: api.TText, Text: "a", Line: 1, Col: 13, At: 12},
			{Kind: api.TSign, Text: "<*", Line: 1, Col: 14, At: 13}, {Kind: api.TText, Text: "b", Line: 1, Col: 16, At: 15}, {Kind: api.TSign, Text: "-", Line: 1, Col: 17, At: 16}, {Kind: api.TText, Text: "d", Line: 1, Col: 18, At: 17},
			{Kind: api.TSign, Text: "=", Line: 1, Col: 19, At: 18}, {Kind: api.TText, Text: "x", Line: 1, Col: 20, At: 19}, {Kind: api.TEnd, Line: 1, Col: 21, At: 20},
		},
		"<<<<":                {{Kind: api.TSign, Text: "<<<", Line: 1, Col: 1, At: 0}, {Kind: api.TSign, Text: "<", Line: 1, Col: 4, At: 3}, {Kind: api.TEnd, Line: 1, Col: 5, At: 4}},
		"<<<*":                {{Kind: api.TSign, Text: "<<<*", Line: 1, Col: 1, At: 0}, {Kind: api.TEnd, Line: 1, Col: 5, At: 4}},
		`'it''s'\u{e4}\x80\-`: {{Kind: api.TText, Text: "it'sä\x80-", Line: 1, Col: 1, At: 0}, {Kind: api.TEnd, Line: 1, Col: 20, At: 19}},
		"''":                  {{Kind: api.TText, Text: "", Line: 1, Col: 1, At: 0}, {Kind: api.TEnd, Line: 1, Col: 3, At: 2}},
		"":                    {{Kind: api.TEnd, Line: 1, Col: 1, At: 0}},
		"#":                   {{Kind: api.TEnd, Line: 1, Col: 2, At: 1}},
		"\n":                  {{Kind: api.TEnd, Line: 2, Col: 1, At: 1}},
		"é \U0001f468\n\xe2\x82<": {
			{Kind: api.TText, Text: "é", Line: 1, Col: 1, At: 0}, {Kind: api.TText, Text: "\U0001f468", Line: 1, Col: 3, At: 3}, {Kind: api.TText, Text: "\xe2\x82", Line: 2, Col: 1, At: 8},
			{Kind: api.TSign, Text: "<", Line: 2, Col: 3, At: 10}, {Kind: api.TEnd, Line: 2, Col: 4, At: 11},
		},
	} {
		if got := tokens(t, s); !slices.Equal(got, want) {
			t.Errorf("Scan(%q): %v; want %v", s, got, want)
		}
		check(t, s)
	}
}

// P5.1: signs behind one another, and what isn't one.
func TestSigns(t *testing.T) {
	for _, s := range []string{"&", "<", "<<", "<<<", "=", "/", "-", "<*", "<<*", "<<<*", "=*"} {
		has(t, s, sign(s))
		has(t, s+" "+s, sign(s), sign(s))
		has(t, "a"+s+"b", text("a"), sign(s), text("b"))
		has(t, "''"+s+"''", text(""), sign(s), text(""))
		has(t, "[x]"+s+"[y]", option("x"), sign(s), option("y"))
		has(t, s+"\xff", sign(s), text("\xff"))
		has(t, s+"#<", sign(s))
	}
	has(t, "<<<<<<<", sign("<<<"), sign("<<<"), sign("<"))
	has(t, "<<<<*<*", sign("<<<"), sign("<*"), sign("<*"))
	has(t, "<*<<*<<<*=*", sign("<*"), sign("<<*"), sign("<<<*"), sign("=*"))
	has(t, "&&<=<==//--", sign("&"), sign("&"), sign("<"), sign("="), sign("<"), sign("="), sign("="), sign("/"), sign("/"), sign("-"), sign("-"))
	has(t, "< <\n<<", sign("<"), sign("<"), sign("<<"))
	has(t, "<#*\n<", sign("<"), sign("<"))
	has(t, "><|>", text(">"), sign("<"), text("|>"))
	rows("<*=&-a ", 6, func(s string) { check(t, s) })
}

// P5.1: options: what stands between, and blanks there.
func TestOptions(t *testing.T) {
	for s, want := range map[string]string{
		"[]": "", "[ ]": "", "[ \t\r\n ]": "", "[a]": "a", "[ a]": "a", "[a ]": "a", "[\n\na\tb \r\n c ]": "a b c", "[before 1]": "before 1", "[a  b   c]": "a b c",
		"[[]": "[", "[[[a]": "[[a", "[a[ b]": "a[ b", "[#]": "#", "[# a]": "# a", "[']": "'", "['a  b']": "'a b'", "[\\]": "\\", "[\\u{e4}]": "\\u{e4}", "[<*]": "<*", "[*]": "*", "[é]": "é", "[\xff \xe2\x82]": "\xff \xe2\x82", "[ \ufffd ]": "\ufffd",
		"[\u00a0a\u00a0]": "\u00a0a\u00a0", "[\u0085 \u2028]": "\u0085 \u2028", "[\va\fb\x00]": "\va\fb\x00", "[\u3000]": "\u3000",
	} {
		has(t, s, option(want))
		has(t, s+s, option(want), option(want))
		has(t, "a"+s+"'b'", text("a"), option(want), text("b"))
	}
	rows("[] \na'", 6, func(s string) { check(t, s) })
	rows("[] \t\r\n#*", 5, func(s string) { check(t, s) })
}

// P5.1: texts: their pieces, straight behind one another.
func TestTexts(t *testing.T) {
	for s, want := range map[string]string{
		"a": "a", "abc": "abc", "é": "é", "\xff": "\xff", "\ufffd": "\ufffd", "\x00\x7f": "\x00\x7f", "\v\f\u0085\u00a0\u2028": "\v\f\u0085\u00a0\u2028", `a"b`: `a"b`, "{}": "{}", "ux": "ux", "\U0010ffff": "\U0010ffff",
		"''": "", "''''": "'", "''''''": "''", "'''a'": "'a", "'a'''": "a'", "'a''''b'": "a''b", "'it''s'": "it's", "' '": " ", "'\n\t'": "\n\t", "'#[]*&<=/-'": "#[]*&<=/-", `'\'`: `\`, `'\u{}\x'`: `\u{}\x`, "'\xff\xe2'": "\xff\xe2", "'é'": "é",
		`\u{41}`: "A", `\u{0}`: "\x00", `\u{000041}`: "A", `\u{e4}`: "ä", `\u{E4}`: "ä", `\u{10FFFF}`: "\U0010ffff", `\u{10ffff}`: "\U0010ffff", `\u{d7ff}\u{e000}`: "\ud7ff\ue000", `\u{fffd}`: "\ufffd", `\u{41}}`: "A}", `\u{0}0`: "\x000",
		`\x80`: "\x80", `\xff`: "\xff", `\xFf`: "\xff", `\xaB`: "\xab", `\x800`: "\x800", `\x80a`: "\x80a",
		`\a`: "a", `\ `: " ", "\\\n": "\n", "\\\t\\\r": "\t\r", `\\`: `\`, `\'`: "'", `\#`: "#", `\*`: "*", `\[`: "[", `\]`: "]", `\U`: "U", `\X80`: "X80", `\é`: "é", "\\\xff": "\xff", "\\\xe2\x82": "\xe2\x82", "\\\ufffd": "\ufffd", "\\\x00": "\x00", `\-\&\<\=\/`: "-&<=/", "\\\U0001f468": "\U0001f468",
		"a'b'": "ab", "'a'b": "ab", "a''b": "ab", `a\u{62}\x80\ c'd'`: "ab\x80 cd", `'a'\u{62}'c'`: "abc", `\'''`: "'", `''\'`: "'", `\\''\\`: `\\`, `'a'\''b'`: "a'b",
		`\xc3\xa9`: "é", "\xc3\\xa9": "é", "'\xc3'\\xa9": "é", "\\\xc3'\xa9'": "é", `\xe2\x82\xac`: "€", `\xf0'` + "\x9f\x91" + `'\xa8`: "\U0001f468",
	} {
		has(t, s, text(want))
		has(t, s+" "+s, text(want), text(want))
		has(t, "<"+s+"&", sign("<"), text(want), sign("&"))
		has(t, "\n"+s+"#a", text(want))
		has(t, s+"[]", text(want), option(""))
	}
	rows("'a \n\\", 7, func(s string) { check(t, s) })
	rows("'", 12, func(s string) { check(t, s) })
	rows("'\xc3\xa9\xff", 6, func(s string) { check(t, s) })
}

// P5.1: escapes of every number, and of what is like one.
func TestEscapes(t *testing.T) {
	rows("0dDf8}{g", 5, func(s string) {
		check(t, `\u`+s)
		check(t, `\u{`+s)
	})
	rows(`\ux{}8f`, 5, func(s string) { check(t, s) })
	for a := range 256 {
		for b := range 256 {
			check(t, `\x`+string([]byte{byte(a), byte(b)}))
		}
		check(t, `\`+string([]byte{byte(a)}))
		check(t, `\x`+string([]byte{byte(a)}))
		check(t, `\u`+string([]byte{byte(a)})+"41}")
		check(t, `\u{`+string([]byte{byte(a)})+"}")
		check(t, `\u{41`+string([]byte{byte(a)}))
	}
}

// P5.1: the number of every character, and of nothing else.
func TestEveryNumber(t *testing.T) {
	const digits = "0123456789abcdef"
	for n := 0; n < 1<<24; n++ {
		if n == 0x111000 { // Further on, only some.
			n = 0xfff000
		}
		s := []byte(`\u{000000}`)
		for i, rest := 8, n; rest > 0; i, rest = i-1, rest/16 {
			s[i] = digits[rest%16]
		}
		l, e := scan.Scan(string(s))
		if n > 0x10ffff || n >= 0xd800 && n <= 0xdfff {
			if wrong := refused(l, e, api.Fault{No: api.ErrEscape, Line: 1, At: 1}); wrong != "" {
				t.Fatalf("Scan(%q): %s", s, wrong)
			}
		} else if e != nil || len(l) != 2 || l[0].Text != string(rune(n)) {
			t.Fatalf("Scan(%q): %v, %v", s, l, e)
		}
	}
}

// P5.1: blanks and remarks, with a line end behind them and without.
func TestPassedOver(t *testing.T) {
	for _, s := range []string{"", " ", "\t", "\n", "\r", " \t\r\n ", "#", "# x", "#\n", "##", "#\n#\n", "# x\n # y", "#'", "#[", "#]", "#*", "#\\", "#\\u", "#\xff", "#é\n", "#\r", " # \t"} {
		has(t, s)
		has(t, "a "+s, text("a"))
		has(t, "<"+s, sign("<"))
		has(t, "[a]"+s, option("a"))
		has(t, s+"\na", text("a"))
	}
	has(t, "a#b", text("a"))
	has(t, "a#b\nc", text("a"), text("c"))
	has(t, "# a\r& b", []plain{}...)
	has(t, "#\n&#\na", sign("&"), text("a"))
	has(t, `\#a`, text("#a"))
	for b := range 256 {
		s := string([]byte{byte(b)})
		check(t, s)
		check(t, "a"+s+"b")
		check(t, "#"+s+"b")
	}
}

// P5.1: what is wrong, each at its place, and the first of two things.
func TestRefused(t *testing.T) {
	for s, want := range map[string]api.Fault{
		`\u{d800}`: {No: api.ErrEscape, Line: 1, At: 1}, `\u{}`: {No: api.ErrEscape, Line: 1, At: 1}, `\x7f`: {No: api.ErrEscape, Line: 1, At: 1}, `a\`: {No: api.ErrEscape, Line: 1, At: 2}, `\u41`: {No: api.ErrEscape, Line: 1, At: 1},
		"é'": {No: api.ErrQuote, Line: 1, At: 2}, "[a": {No: api.ErrBracket, Line: 1, At: 1}, "a]": {No: api.ErrBracket, Line: 1, At: 2}, "*": {No: api.ErrForm, Line: 1, At: 1}, "<< *": {No: api.ErrForm, Line: 1, At: 4},
		// A star that belongs to no sign.
		"a*": {No: api.ErrForm, Line: 1, At: 2}, "&*": {No: api.ErrForm, Line: 1, At: 2}, "-*": {No: api.ErrForm, Line: 1, At: 2}, "/*": {No: api.ErrForm, Line: 1, At: 2}, "<**": {No: api.ErrForm, Line: 1, At: 3}, "=**": {No: api.ErrForm, Line: 1, At: 3}, "<<<<**": {No: api.ErrForm, Line: 1, At: 6},
		"[a]*": {No: api.ErrForm, Line: 1, At: 4}, "'a'*": {No: api.ErrForm, Line: 1, At: 4}, `\a*`: {No: api.ErrForm, Line: 1, At: 3}, "<#\n*": {No: api.ErrForm, Line: 2, At: 1}, "<\n*": {No: api.ErrForm, Line: 2, At: 1}, "\xff*": {No: api.ErrForm, Line: 1, At: 2}, "<''*": {No: api.ErrForm, Line: 1, At: 4},
		// A bracket without its other.
		"[": {No: api.ErrBracket, Line: 1, At: 1}, "]": {No: api.ErrBracket, Line: 1, At: 1}, "[]]": {No: api.ErrBracket, Line: 1, At: 3}, "[[]]": {No: api.ErrBracket, Line: 1, At: 4}, "[a] [": {No: api.ErrBracket, Line: 1, At: 5}, "<]": {No: api.ErrBracket, Line: 1, At: 2}, "''[": {No: api.ErrBracket, Line: 1, At: 3}, "\n é[\n\n": {No: api.ErrBracket, Line: 2, At: 3},
		"[#\n": {No: api.ErrBracket, Line: 1, At: 1}, "['": {No: api.ErrBracket, Line: 1, At: 1}, `[\`: {No: api.ErrBracket, Line: 1, At: 1}, "[*": {No: api.ErrBracket, Line: 1, At: 1}, "#]\n]": {No: api.ErrBracket, Line: 2, At: 1}, "']']": {No: api.ErrBracket, Line: 1, At: 4}, `\]]`: {No: api.ErrBracket, Line: 1, At: 3},
		// A quote without an end: where the piece begins, not the text.
		"'": {No: api.ErrQuote, Line: 1, At: 1}, "'''": {No: api.ErrQuote, Line: 1, At: 1}, "'''''": {No: api.ErrQuote, Line: 1, At: 1}, "'a''": {No: api.ErrQuote, Line: 1, At: 1}, "'a''b": {No: api.ErrQuote, Line: 1, At: 1}, "'a'b'c": {No: api.ErrQuote, Line: 1, At: 5}, "'a' 'b": {No: api.ErrQuote, Line: 1, At: 5}, "a\\''": {No: api.ErrQuote, Line: 1, At: 4}, "''a'''": {No: api.ErrQuote, Line: 1, At: 4},
		"'\n\n": {No: api.ErrQuote, Line: 1, At: 1}, "'\n''\n": {No: api.ErrQuote, Line: 1, At: 1}, "'\n'\nb'": {No: api.ErrQuote, Line: 3, At: 2}, "'#]*[": {No: api.ErrQuote, Line: 1, At: 1}, `'\`: {No: api.ErrQuote, Line: 1, At: 1}, `'\'\''`: {No: api.ErrQuote, Line: 1, At: 6}, "'\xff": {No: api.ErrQuote, Line: 1, At: 1},
		// Escapes: at the \, not where the text begins.
		`\`: {No: api.ErrEscape, Line: 1, At: 1}, `\\\`: {No: api.ErrEscape, Line: 1, At: 3}, `\u`: {No: api.ErrEscape, Line: 1, At: 1}, `\u{`: {No: api.ErrEscape, Line: 1, At: 1}, `\u{41`: {No: api.ErrEscape, Line: 1, At: 1}, `\u{ 41}`: {No: api.ErrEscape, Line: 1, At: 1}, `\u{41 }`: {No: api.ErrEscape, Line: 1, At: 1}, `\u {41}`: {No: api.ErrEscape, Line: 1, At: 1}, `\u41}`: {No: api.ErrEscape, Line: 1, At: 1}, `\u}`: {No: api.ErrEscape, Line: 1, At: 1},
		`\u{0000041}`: {No: api.ErrEscape, Line: 1, At: 1}, `\u{dfff}`: {No: api.ErrEscape, Line: 1, At: 1}, `\u{110000}`: {No: api.ErrEscape, Line: 1, At: 1}, `\u{1100ff}`: {No: api.ErrEscape, Line: 1, At: 1}, `\u{ffffff}`: {No: api.ErrEscape, Line: 1, At: 1}, `\u{-1}`: {No: api.ErrEscape, Line: 1, At: 1}, `\u{+41}`: {No: api.ErrEscape, Line: 1, At: 1}, `\u{0x41}`: {No: api.ErrEscape, Line: 1, At: 1}, `\u{4_1}`: {No: api.ErrEscape, Line: 1, At: 1}, `\u{g}`: {No: api.ErrEscape, Line: 1, At: 1}, "\\u{4\xff}": {No: api.ErrEscape, Line: 1, At: 1}, `\u{４}`: {No: api.ErrEscape, Line: 1, At: 1},
		`\x`: {No: api.ErrEscape, Line: 1, At: 1}, `\x8`: {No: api.ErrEscape, Line: 1, At: 1}, `\x8g`: {No: api.ErrEscape, Line: 1, At: 1}, `\x00`: {No: api.ErrEscape, Line: 1, At: 1}, `\x{80}`: {No: api.ErrEscape, Line: 1, At: 1}, `\x+f`: {No: api.ErrEscape, Line: 1, At: 1}, `\x 80`: {No: api.ErrEscape, Line: 1, At: 1}, "\\x\n80": {No: api.ErrEscape, Line: 1, At: 1}, `\x8é`: {No: api.ErrEscape, Line: 1, At: 1},
		"é\nä'b'\\": {No: api.ErrEscape, Line: 2, At: 5}, "'\n'\\u": {No: api.ErrEscape, Line: 2, At: 2}, "\\\n\\": {No: api.ErrEscape, Line: 2, At: 1}, "\xe2\x82\\": {No: api.ErrEscape, Line: 1, At: 3},
		// Two in one file: the first.
		"*]": {No: api.ErrForm, Line: 1, At: 1}, "]*": {No: api.ErrBracket, Line: 1, At: 1}, "*[": {No: api.ErrForm, Line: 1, At: 1}, "'*": {No: api.ErrQuote, Line: 1, At: 1}, "*'": {No: api.ErrForm, Line: 1, At: 1}, `\u'`: {No: api.ErrEscape, Line: 1, At: 1}, `'\u`: {No: api.ErrQuote, Line: 1, At: 1}, `\x]`: {No: api.ErrEscape, Line: 1, At: 1}, `a]\`: {No: api.ErrBracket, Line: 1, At: 2}, "<\n*\n]": {No: api.ErrForm, Line: 2, At: 1}, "[a]\n]\n*": {No: api.ErrBracket, Line: 2, At: 1}, `\u{41'}`: {No: api.ErrEscape, Line: 1, At: 1},
	} {
		l, e := scan.Scan(s)
		if wrong := refused(l, e, want); wrong != "" {
			t.Errorf("Scan(%q): %s: %v, %#v; want %v", s, wrong, l, e, want)
		}
		check(t, s)
		// Whatever right things stand ahead, the place alone changes.
		l, e = scan.Scan("& é <* '\n' [a\n]\n#\n" + s)
		if wrong := refused(l, e, api.Fault{No: want.No, Line: want.Line + 4, At: want.At}); wrong != "" {
			t.Errorf("Scan(%q), further down: %s: %v, %#v", s, wrong, l, e)
		}
	}
}

// P5.1, P5.6: all short files of all bytes, and longer ones of those that mean something.
func TestShort(t *testing.T) {
	for a := range 256 {
		for b := range 256 {
			check(t, string([]byte{byte(a), byte(b)}))
		}
	}
	rows("a \n&<=/-[]#*'\\ux{}8f\xc3\xa9", 3, func(s string) { check(t, s) })
	rows("a \n&<-[]#*'\\\xc3\xa9", 4, func(s string) { check(t, s) })
}

// P5.1, P5.6: files made by chance, right ones and others.
func TestChance(t *testing.T) {
	c := chance(5)
	pieces := right()
	refused := 0
	for range 4000 {
		s := c.file(60, pieces)
		check(t, s)
		tokens(t, s)
		s += c.file(3, wrong()) + c.file(20, pieces) + c.file(3, wrong()) + c.file(20, pieces)
		check(t, s)
		if _, e := scan.Scan(s); e != nil {
			refused++
		}
	}
	if refused < 1000 || refused > 3800 {
		t.Errorf("%d of 4000 are refused: the files are of one kind", refused)
	}
}

// P5.1: files that are spoilt at each byte: cut there, or with that byte gone, or with anything put in: ill-formed bytes everywhere.
func TestSpoilt(t *testing.T) {
	for _, s := range []string{
		"& a <<< 'b c' / ch # x", "&[before  1]a<*b-d=x", `'it''s'\u{e4}\x80\-`, "[strength 2] [backwards on]\n& é # \xff\n< \U0001f468 'ä' \\é", "\xe2\x82[\xe2\x82]'\xe2\x82'\\\xe2\x82#\xe2\x82\n\\xe2\\x82",
	} {
		for at := range len(s) + 1 {
			check(t, s[:at])
			check(t, s[at:])
			for _, put := range append(append(right(), wrong()...), "\x80", "\xbf", "\xc2", "\xf4", "\xed\xa0\x80") {
				check(t, s[:at]+put+s[at:])
				if at < len(s) {
					check(t, s[:at]+put+s[at+1:])
				}
			}
		}
	}
}

// R4, R5: an answer shares nothing with another one; many may ask at once.
func TestAnswers(t *testing.T) {
	const s = "& a <<< 'b c' / ch # x\n[a  b]"
	want := tokens(t, s)
	first := tokens(t, s)
	first = first[:cap(first)]
	for i := range first {
		first[i] = api.Token{Kind: 7, Text: "spoilt"}
	}
	if !slices.Equal(tokens(t, s), want) {
		t.Error("an answer has changed what is told later")
	}
	var group sync.WaitGroup
	for range 4 {
		group.Go(func() {
			for range 50 {
				if l, e := scan.Scan(s); e != nil || !slices.Equal(l, want) {
					t.Errorf("side by side: %v, %v", l, e)
				}
				if _, e := scan.Scan(s + "]"); !errors.Is(e, api.ErrBracket) {
					t.Errorf("side by side: %v", e)
				}
			}
		})
	}
	group.Wait()
	if l, _ := scan.Scan(strings.Repeat(" ", 100)); len(l) != 1 || l[0] != (api.Token{Kind: api.TEnd, Line: 1, Col: 101, At: 100}) {
		t.Errorf("blanks alone: %v", l)
	}
}
