package ranges_test

import (
	"slices"
	"strings"
	"testing"

	"glossary/api"
	"glossary/ranges"
)

// wrongWith tells what is wrong with what Parse tells of a text, held against the second way to read it.
func wrongWith(s string) string {
	set, e := ranges.Parse(s)
	l, no, at := parsedOf(s)
	if no != api.OK {
		return refused(set, e, no, at)
	}
	switch {
	case e != nil || set == nil:
		return "it is refused"
	case !slices.Equal(set.Spans(), l):
		return "it is another set"
	case ranges.Print(set) != s:
		return "its form is another text"
	}
	return ""
}

// read stops the test at the first text of which something is told that is wrong.
func read(t *testing.T, s string) {
	t.Helper()
	if wrong := wrongWith(s); wrong != "" {
		t.Fatalf("Parse(%q): %s", s, wrong)
	}
}

// P3.4: the chapter's examples, and the first and last points of each kind.
func TestPrint(t *testing.T) {
	for _, x := range []struct {
		spans []api.Span
		want  string
	}{
		{[]api.Span{{Lo: 0x61, Hi: 0x7a}, {Lo: 0xff, Hi: 0xff}, {Lo: 0x1100ff, Hi: 0x1100ff}}, `[\u{61}-\u{7a}\u{ff}\xff]`},
		{nil, `[]`},
		{[]api.Span{{}}, `[\u{0}]`},
		{[]api.Span{{Lo: 0, Hi: 1}}, `[\u{0}-\u{1}]`},
		{[]api.Span{{Lo: 0xd7ff, Hi: 0xd7ff}, {Lo: 0xe000, Hi: 0xe000}}, `[\u{d7ff}-\u{e000}]`},
		{[]api.Span{{Lo: 0x10ffff, Hi: 0x110080}}, `[\u{10ffff}-\x80]`},
		{[]api.Span{{Lo: 0x110080, Hi: 0x11008f}, {Lo: 0x1100ab, Hi: 0x1100ab}}, `[\x80-\x8f\xab]`},
		{[]api.Span{{Lo: 0xabc, Hi: 0xabc}, {Lo: 0x2d, Hi: 0x2d}, {Lo: 0x5b, Hi: 0x5d}, {Lo: 0x0a, Hi: 0x0a}}, `[\u{a}\u{2d}\u{5b}-\u{5d}\u{abc}]`},
		{[]api.Span{{Lo: 0x100000, Hi: 0x10ffff}, {Lo: 0x10000, Hi: 0x10000}}, `[\u{10000}\u{100000}-\u{10ffff}]`},
	} {
		if s := ranges.Print(set(t, x.spans...)); s != x.want {
			t.Errorf("Print of %x: %s; want %s", x.spans, s, x.want)
		}
	}
}

// P3.4, P3.5: every point alone, and with the next but one.
func TestEveryPoint(t *testing.T) {
	for r := rune(0); r <= 0x1100ff; r = behind(r) {
		want := "[" + formOf(r) + "]"
		s := set(t, api.Span{Lo: r, Hi: r})
		if ranges.Print(s) != want || s.Count() != 1 || !s.Has(r) {
			t.Fatalf("Print of %x: %s; want %s", r, ranges.Print(s), want)
		}
		back, e := ranges.Parse(want)
		if e != nil || !same(back, s) {
			t.Fatalf("Parse(%s): %v", want, e)
		}
	}
}

// P3.5: the chapter's examples, and every other way to be wrong.
func TestParseRefuses(t *testing.T) {
	for _, x := range []struct {
		s  string
		no api.Errno
		at int
	}{
		{"", api.ErrBracket, 0}, {"[", api.ErrBracket, 1}, {"[]x", api.ErrLong, 2}, {"[a]", api.ErrEscape, 1}, {`[\u{d800}]`, api.ErrEscape, 1}, {`[\u{061}]`, api.ErrEscape, 1}, {`[\u{61}-]`, api.ErrEscape, 8},
		{`[\u{62}-\u{61}]`, api.ErrForm, 1}, {`[\u{61}-\u{61}]`, api.ErrForm, 1}, {`[\u{61}\u{62}]`, api.ErrForm, 7}, {`[\u{61}\u{63}\xFF]`, api.ErrEscape, 13},
		{"]", api.ErrBracket, 0}, {" []", api.ErrBracket, 0}, {`\u{61}`, api.ErrBracket, 0}, {"[]]", api.ErrLong, 2}, {"[][]", api.ErrLong, 2}, {"[]\xff", api.ErrLong, 2}, {`[\u{61}]]`, api.ErrLong, 8},
		{`[\u{61}`, api.ErrBracket, 7}, {`[\u{61}-\u{62}`, api.ErrBracket, 14}, {`[\xff`, api.ErrBracket, 5}, {`[\u{61}-`, api.ErrEscape, 8}, {`[-`, api.ErrEscape, 1}, {`[-\u{61}]`, api.ErrEscape, 1},
		{`[\u{61}--\u{63}]`, api.ErrEscape, 8}, {`[\u{61}-\u{63}-\u{65}]`, api.ErrEscape, 14}, {"[[]]", api.ErrEscape, 1}, {`[ \u{61}]`, api.ErrEscape, 1}, {`[\u{61} ]`, api.ErrEscape, 7}, {`[\u{61},\u{63}]`, api.ErrEscape, 7},
		{`[\u{}]`, api.ErrEscape, 1}, {`[\u{00}]`, api.ErrEscape, 1}, {`[\u{6A}]`, api.ErrEscape, 1}, {`[\U{61}]`, api.ErrEscape, 1}, {`[\u61]`, api.ErrEscape, 1}, {`[\u{61]`, api.ErrEscape, 1}, {`[\u{61`, api.ErrEscape, 1}, {`[\u`, api.ErrEscape, 1}, {`[\`, api.ErrEscape, 1},
		{`[\u{dfff}]`, api.ErrEscape, 1}, {`[\u{110000}]`, api.ErrEscape, 1}, {`[\u{1100ff}]`, api.ErrEscape, 1}, {`[\u{200000}]`, api.ErrEscape, 1}, {`[\u{100000061}]`, api.ErrEscape, 1}, {`[\u{10000000000000061}]`, api.ErrEscape, 1}, {`[\u{-1}]`, api.ErrEscape, 1}, {`[\u{+61}]`, api.ErrEscape, 1}, {`[\u{0x61}]`, api.ErrEscape, 1}, {`[\u{6_1}]`, api.ErrEscape, 1}, {`[\u{ 61}]`, api.ErrEscape, 1},
		{`[\x7f]`, api.ErrEscape, 1}, {`[\x00]`, api.ErrEscape, 1}, {`[\x8]`, api.ErrEscape, 1}, {`[\x8`, api.ErrEscape, 1}, {`[\x`, api.ErrEscape, 1}, {`[\xfg]`, api.ErrEscape, 1}, {`[\x+f]`, api.ErrEscape, 1}, {`[\x{ff}]`, api.ErrEscape, 1}, {`[\xfff]`, api.ErrEscape, 5}, {`[\Xff]`, api.ErrEscape, 1},
		{"[\xff]", api.ErrEscape, 1}, {"[é]", api.ErrEscape, 1}, {"[\x00]", api.ErrEscape, 1},
		{`[\u{63}\u{61}]`, api.ErrForm, 7}, {`[\u{61}\u{61}]`, api.ErrForm, 7}, {`[\u{61}-\u{63}\u{64}]`, api.ErrForm, 14}, {`[\u{61}-\u{63}\u{62}-\u{65}]`, api.ErrForm, 14}, {`[\u{61}\u{61}-\u{63}]`, api.ErrForm, 7}, {`[\u{61}\u{60}-\u{63}]`, api.ErrForm, 7},
		{`[\u{d7ff}\u{e000}]`, api.ErrForm, 9}, {`[\u{10ffff}\x80]`, api.ErrForm, 11}, {`[\xff\u{0}]`, api.ErrForm, 5}, {`[\x80-\u{10ffff}]`, api.ErrForm, 1}, {`[\xff-\xff]`, api.ErrForm, 1}, {`[\u{0}-\u{0}]`, api.ErrForm, 1},
		{`[\u{62}-\u{61}\q]`, api.ErrForm, 1}, {`[\u{61}\u{62}`, api.ErrForm, 7}, {`[\u{61}\u{62}]x`, api.ErrForm, 7}, {`[\u{63}\u{61}-\q]`, api.ErrEscape, 14}, {`[\q\u{62}-\u{61}]`, api.ErrEscape, 1}, {`[\q]x`, api.ErrEscape, 1}, {`[\q`, api.ErrEscape, 1},
	} {
		s, e := ranges.Parse(x.s)
		if wrong := refused(s, e, x.no, x.at); wrong != "" {
			t.Errorf("Parse(%s): %v: %s", x.s, e, wrong)
		}
		if l, no, at := parsedOf(x.s); l != nil || no != x.no || at != x.at {
			t.Errorf("the second way reads %s as %x, %v at %d", x.s, l, no, at)
		}
	}
}

// P3.5, P3.6: texts and sets there and back.
func TestThereAndBack(t *testing.T) {
	sets, _ := small(t)
	for _, l := range some() {
		sets = append(sets, set(t, l...))
	}
	c := chance(13)
	for range 300 {
		sets = append(sets, set(t, c.spans(30)...))
	}
	for _, s := range sets {
		for _, s := range []*ranges.Set{s, s.Not()} {
			form := ranges.Print(s)
			back, e := ranges.Parse(form)
			if e != nil || !same(back, s) || ranges.Print(back) != form || back.Count() != s.Count() {
				t.Fatalf("%s doesn't come back: %v", form, e)
			}
			read(t, form)
		}
	}
	for _, s := range []string{"[]", `[\u{0}]`, `[\u{61}-\u{7a}\u{ff}\xff]`, `[\u{0}-\xff]`, `[\u{d7ff}\u{e001}]`, `[\u{10ffff}\x81-\xff]`, `[\u{61}-\u{62}\u{64}]`} {
		back, e := ranges.Parse(s)
		if e != nil || ranges.Print(back) != s {
			t.Errorf("Parse(%s): %v", s, e)
		}
	}
}

// P3.5: texts that are spoilt at each byte: cut there, or with that byte gone, another one, or one more.
func TestSpoilt(t *testing.T) {
	for _, s := range []string{
		"[]", `[\u{0}]`, `[\u{61}-\u{7a}\u{ff}\xff]`, `[\u{0}-\xff]`, `[\u{d7fe}\u{e000}-\u{10ffff}\x81]`, `[\x80-\xa0\xff]`, `[\u{9}-\u{99}\u{999}-\u{9999}\u{99999}]`,
		`[\u{d7ff}\u{e001}\u{10fffe}\x80]`, `[\u{61}-\u{63}\u{65}-\u{67}]`,
	} {
		read(t, s)
		for at := range len(s) + 1 {
			read(t, s[:at])
			read(t, s[at:])
			for b := range 256 {
				one := string([]byte{byte(b)})
				read(t, s[:at]+one+s[at:])
				if at < len(s) {
					read(t, s[:at]+one+s[at+1:])
				}
			}
			if at < len(s) {
				read(t, s[:at]+s[at+1:])
			}
		}
	}
}

// P3.5: rows of all pieces of which texts are made, in any order.
func TestPieces(t *testing.T) {
	pieces := []string{"[", "]", "-", `\u{61}`, `\u{62}`, `\u{d7ff}`, `\u{e000}`, `\u{10ffff}`, `\x80`, `\xff`, `\u{`, `}`, "x"}
	var fill func(s string, n int)
	fill = func(s string, n int) {
		read(t, s)
		if n == 0 {
			return
		}
		for _, x := range pieces {
			fill(s+x, n-1)
		}
	}
	fill("", 3)
	fill("[", 4)
	fill(`[\u{61}-`, 3)
	c := chance(17)
	for range 20000 {
		s := "["
		for range c.below(12) {
			s += pieces[c.below(len(pieces))]
		}
		read(t, s+"]")
	}
}

// R1: long texts that are wrong only far behind, or everywhere.
func TestLongTexts(t *testing.T) {
	const n = 1 << 18
	for _, x := range []struct {
		s  string
		no api.Errno
		at int
	}{
		{`[\u{` + strings.Repeat("6", n), api.ErrEscape, 1},
		{`[\u{` + strings.Repeat("0", n) + "}]", api.ErrEscape, 1},
		{strings.Repeat("[", n), api.ErrEscape, 1},
		{"[" + strings.Repeat(`\u{61}`, n) + "]", api.ErrForm, 7},
		{"[]" + strings.Repeat("]", n), api.ErrLong, 2},
		{strings.Repeat(" ", n), api.ErrBracket, 0},
	} {
		s, e := ranges.Parse(x.s)
		if wrong := refused(s, e, x.no, x.at); wrong != "" {
			t.Errorf("Parse(%s..): %v: %s", x.s[:9], e, wrong)
		}
	}
	var b strings.Builder
	b.WriteString("[")
	for r := 0; r < 2*0xd800/4; r += 2 {
		b.WriteString(formOf(rune(r)))
	}
	s, e := ranges.Parse(b.String())
	if wrong := refused(s, e, api.ErrBracket, b.Len()); wrong != "" {
		t.Errorf("a long text without its end: %v: %s", e, wrong)
	}
}
