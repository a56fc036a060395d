package scan_test

import (
	"slices"
	"strings"
	"testing"

	"glossary/api"
	"glossary/scan"
)

// some are files that are right: the chapter's, those that end in each way, and others made by chance.
func some() []string {
	l := []string{
		"", "#", "\n", " ", "# x", "#\n", "a", "a\n", "& a <<< 'b c' / ch # x", "&[before  1]a<*b-d=x", "<<<<", "<<<*", `'it''s'\u{e4}\x80\-`, "''", "'a\n'", "[a\n]", "\\\n", "<", "=*", "é\xe2", "\xe2\x82\n", "[]\n\n", "# é\n\xff # x", "a\r", "\n\n\n", "'\n\n' \\\n [\n]\n# x",
	}
	c := chance(7)
	for range 60 {
		l = append(l, c.file(40, right()))
	}
	return l
}

// P5.4: two files, one behind the other with a byte 0a between.
func TestTwoFiles(t *testing.T) {
	for _, a := range some() {
		for _, b := range some() {
			want := tokens(t, a)
			want = want[:len(want)-1]
			for _, x := range tokens(t, b) {
				x.Line += strings.Count(a, "\n") + 1
				x.At += len(a) + 1
				want = append(want, x)
			}
			if got := tokens(t, a+"\n"+b); !slices.Equal(got, want) {
				t.Fatalf("%q, and %q behind it: %v; want %v", a, b, got, want)
			}
		}
	}
}

// P5.4: two files that are not too long each, but together, in bytes or in lines.
func TestTwoFilesTooLong(t *testing.T) {
	half := strings.Repeat("a", maxSource/2)
	if l, e := scan.Scan(half + "\n" + half); refused(l, e, api.Fault{No: api.ErrMany}) != "" {
		t.Errorf("too many bytes: %v", e)
	}
	has(t, half[1:]+"\n"+half, text(half[1:]), text(half))
	ends := strings.Repeat("\n", maxLines/2)
	if l, e := scan.Scan(ends + "\n" + ends); refused(l, e, api.Fault{No: api.ErrMany, Line: maxLines + 1, At: 1}) != "" {
		t.Errorf("too many lines: %v", e)
	}
	has(t, ends[1:]+"\n"+ends)
}

// P5.5: remarks with their line ends, and blanks, ahead of any token.
func TestPutIn(t *testing.T) {
	for _, s := range some() {
		l := tokens(t, s)
		whole := ""
		from := 0
		for i, x := range l {
			for _, put := range []string{" ", "\n", "\t\r\n  ", "#\n", "# '[\\ *]&\n", "#\xff#\r\n\t", " # \\\n# ''\n\n"} {
				if got := tokens(t, s[:x.At]+put+s[x.At:]); !slices.Equal(plains(got), plains(l)) {
					t.Fatalf("%q, with %q ahead of token %d: %v; want %v", s, put, i, got, l)
				}
			}
			whole += s[from:x.At] + " #*\n"
			from = x.At
		}
		if got := tokens(t, whole); !slices.Equal(plains(got), plains(l)) {
			t.Fatalf("%q, with remarks ahead of all tokens: %v; want %v", s, got, l)
		}
	}
}

// P5.6: the Line, the Col and the At of each token are one place, and tokens come rising.
func TestPlaces(t *testing.T) {
	for _, s := range some() {
		before := -1
		for _, x := range tokens(t, s) {
			if line, col := placeOf(s, x.At); x.Line != line || x.Col != col || x.At <= before {
				t.Errorf("%q: %v is not at %d:%d", s, x, line, col)
			}
			before = x.At
		}
		if before != len(s) {
			t.Errorf("%q ends at %d", s, before)
		}
	}
}
