package scan_test

import (
	"slices"
	"strings"
	"testing"

	"glossary/api"
	"glossary/scan"
)

const (
	maxSource = 1048576
	maxLines  = 65536
)

// P5.1: files of MaxSource bytes, and of one more.
func TestMaxSource(t *testing.T) {
	for _, x := range []struct {
		unit   string
		tokens int // with the end
		last   plain
		col    int // of the end
	}{
		{"a", 2, text(strings.Repeat("a", maxSource)), maxSource + 1}, {"\xff", 2, text(strings.Repeat("\xff", maxSource)), maxSource + 1}, {"\U0001f468", 2, text(strings.Repeat("\U0001f468", maxSource/4)), maxSource/4 + 1},
		{"&", maxSource + 1, sign("&"), maxSource + 1}, {"<", maxSource/3 + 2, sign("<"), maxSource + 1}, {"=*", maxSource/2 + 1, sign("=*"), maxSource + 1},
		{"a ", maxSource/2 + 1, text("a"), maxSource + 1}, {"[]", maxSource/2 + 1, option(""), maxSource + 1}, {"'", 2, text(strings.Repeat("'", maxSource/2-1)), maxSource + 1}, {`\`, 2, text(strings.Repeat(`\`, maxSource/2)), maxSource + 1},
		{`\x80`, 2, text(strings.Repeat("\x80", maxSource/4)), maxSource + 1}, {`\u{4142}`, 2, text(strings.Repeat("\u4142", maxSource/8)), maxSource + 1}, {" ", 1, plain{}, maxSource + 1}, {"#", 1, plain{}, maxSource + 1}, {"#\r", 1, plain{}, maxSource + 1},
	} {
		s := strings.Repeat(x.unit, maxSource/len(x.unit))
		l := tokens(t, s)
		end := api.Token{Kind: api.TEnd, Line: 1, Col: x.col, At: maxSource}
		if len(l) != x.tokens || l[len(l)-1] != end || x.tokens > 1 && plains(l[len(l)-2:])[0] != x.last {
			t.Errorf("%q, again and again: %d tokens, the end %v", x.unit, len(l), l[len(l)-1])
		}
		for _, more := range []string{s + "a", " " + s, s + "\n", s + s, "*" + s, s + "]"} {
			got, e := scan.Scan(more)
			if wrong := refused(got, e, api.Fault{No: api.ErrMany}); wrong != "" {
				t.Errorf("%q, again and again, and more: %s: %v", x.unit, wrong, e)
			}
		}
	}
}

// P5.1: what is wrong at the very end of a file of MaxSource bytes, and what has no end in one.
func TestWrongAtTheEnd(t *testing.T) {
	a := strings.Repeat("a", maxSource-1)
	for s, want := range map[string]api.Fault{
		a + "*": {No: api.ErrForm, Line: 1, At: maxSource}, a + "]": {No: api.ErrBracket, Line: 1, At: maxSource}, a + "[": {No: api.ErrBracket, Line: 1, At: maxSource}, a + "'": {No: api.ErrQuote, Line: 1, At: maxSource}, a + `\`: {No: api.ErrEscape, Line: 1, At: maxSource},
		"[" + a: {No: api.ErrBracket, Line: 1, At: 1}, "'" + a: {No: api.ErrQuote, Line: 1, At: 1}, `\u{` + a[3:] + "}": {No: api.ErrEscape, Line: 1, At: 1}, "[" + strings.Repeat("[", maxSource-1): {No: api.ErrBracket, Line: 1, At: 1}, strings.Repeat("'", maxSource-1): {No: api.ErrQuote, Line: 1, At: 1},
	} {
		l, e := scan.Scan(s)
		if wrong := refused(l, e, want); wrong != "" {
			t.Errorf("%.10q..: %s: %v", s, wrong, e)
		}
	}
}

// P5.1: files of MaxLines lines, and of one more.
func TestMaxLines(t *testing.T) {
	ends := strings.Repeat("\n", maxLines-1)
	for _, x := range []struct {
		s         string
		line, col int // of the end
	}{
		{ends, maxLines, 1}, {ends + "\n", maxLines + 1, 1}, {ends + "a", maxLines, 2}, {ends + "a\n", maxLines + 1, 1}, {ends + "#", maxLines, 2}, {ends + " ", maxLines, 2}, {ends + "\r\r\r", maxLines, 4},
		{"'" + ends + "'", maxLines, 2}, {"[" + ends + "]\n", maxLines + 1, 1}, {strings.Repeat("#\n", maxLines), maxLines + 1, 1}, {strings.Repeat("\\\n", maxLines), maxLines + 1, 1}, {strings.Repeat("é\n", maxLines), maxLines + 1, 1}, {strings.Repeat("\r", maxLines+1), 1, maxLines + 2},
	} {
		l := tokens(t, x.s)
		if last := l[len(l)-1]; last != (api.Token{Kind: api.TEnd, Line: x.line, Col: x.col, At: len(x.s)}) {
			t.Errorf("%.10q..: the end %v", x.s, last)
		}
	}
	for _, s := range []string{
		ends + "\na", ends + "\n\n", ends + "\n ", ends + "\n#", ends + "\n\xff", "*" + ends + "\na", "]\n" + ends + "'", "'" + ends + "\n'", "[" + ends + "\n]", "'" + ends + "\n ", strings.Repeat("#\n", maxLines) + "#", strings.Repeat("\\\n", maxLines) + `\`, strings.Repeat("\n", maxSource),
	} {
		l, e := scan.Scan(s)
		if wrong := refused(l, e, api.Fault{No: api.ErrMany, Line: maxLines + 1, At: 1}); wrong != "" {
			t.Errorf("%.10q..: %s: %v", s, wrong, e)
		}
	}
	l, e := scan.Scan(strings.Repeat("\n", maxSource+1))
	if wrong := refused(l, e, api.Fault{No: api.ErrMany}); wrong != "" {
		t.Errorf("too many bytes, and too many lines: %s: %v", wrong, e)
	}
}

// P5.6: in a file of many lines each token is at its place.
func TestManyLines(t *testing.T) {
	s := strings.Repeat("é<* 'x\n'\xff\n", maxLines/2)
	var want []api.Token
	for i := range maxLines / 2 {
		line, at := 1+2*i, 11*i
		want = append(want, api.Token{Kind: api.TText, Text: "é", Line: line, Col: 1, At: at}, api.Token{Kind: api.TSign, Text: "<*", Line: line, Col: 2, At: at + 2}, api.Token{Kind: api.TText, Text: "x\n\xff", Line: line, Col: 5, At: at + 5})
	}
	want = append(want, api.Token{Kind: api.TEnd, Line: maxLines + 1, Col: 1, At: len(s)})
	if l := tokens(t, s); !slices.Equal(l, want) {
		t.Errorf("%d tokens; want %d", len(l), len(want))
	}
}
