package cells_test

import (
	"slices"
	"testing"

	"glossary/api"
	"glossary/cells"
	"glossary/props"
)

// problemOf is what is wrong with the cells of a text, by P9.3 alone.
func problemOf(s string, l []api.Range) string {
	at := 0
	for _, x := range l {
		switch {
		case x.From != at:
			return "they don't lie side by side"
		case x.To <= x.From:
			return "one is empty"
		}
		at = x.To
	}
	if at != len(s) {
		return "they don't make up the whole"
	}
	for _, x := range plainUnits(s) {
		if slices.ContainsFunc(l, func(cell api.Range) bool { return cell.To > x.from && cell.To < x.to }) {
			return "a unit is cut"
		}
	}
	return ""
}

// whole holds a text's cells against the second way, and against P9.3.
func whole(t *testing.T, p *props.Props, s string) {
	t.Helper()
	check(t, p, s)
	if problem := problemOf(s, listed(cells.All(p, s))); problem != "" {
		t.Fatalf("cells of %+q: %s", s, problem)
	}
}

// P9.1 to P9.3: all short texts of pieces, and longer ones by chance.
func TestAllTexts(t *testing.T) {
	for _, x := range samples() {
		p, c := parsed(t, x.file), chance(1)
		if len(x.pieces) < 20 {
			texts(x.pieces, 3, func(s string) { whole(t, p, s) })
		}
		for n := range 1500 {
			whole(t, p, c.text(x.pieces, n%40))
		}
		for n := range 1500 {
			b := make([]byte, n%30)
			for i := range b {
				b[i] = "ag\r\n\x01\xcc\x80\xa7\xe1\x84\x85\xea\xb0\xef\xbf\xbd\xff\xf0\x9f"[c.below(19)]
			}
			whole(t, p, string(b))
		}
	}
}

// P9.1, P9.2: every character between a letter and a letter, between joiners, and beside Hangul.
func TestAllCharacters(t *testing.T) {
	for _, x := range []string{odd, file} {
		p := parsed(t, x)
		for r := range rune(0x110000) {
			if r >= 0xd800 && r <= 0xdfff {
				continue
			}
			for _, beside := range []rune{'i', 0x1104, 0xac05} {
				s := string([]rune{beside, r, beside})
				at := len(string(beside))
				if cells.Edge(p, s, at) != plainEdge(p, beside, r) || cells.Edge(p, s, len(s)-at) != plainEdge(p, r, beside) {
					t.Fatalf("%x beside %x: %v, %v", r, beside, cells.Edge(p, s, at), cells.Edge(p, s, len(s)-at))
				}
			}
		}
	}
}

// behind holds the cells of two texts, one behind the other, against those of both.
func behind(t *testing.T, p *props.Props, a, b string) {
	t.Helper()
	whole(t, p, a+b)
	if a == "" || b == "" || len(plainUnits(a+b)) != len(plainUnits(a))+len(plainUnits(b)) {
		return // one is the whole, or bytes of both make up a unit
	}
	want := listed(cells.All(p, a))
	more := listed(cells.All(p, b))
	for i := range more {
		more[i].From += len(a)
		more[i].To += len(a)
	}
	if !cells.Edge(p, a+b, len(a)) {
		want[len(want)-1].To = more[0].To
		more = more[1:]
	}
	want = append(want, more...)
	if got := listed(cells.All(p, a+b)); !slices.Equal(got, want) {
		t.Fatalf("%+q behind %+q: %v, want %v", b, a, got, want)
	}
	if got := listed(cells.Back(p, a+b)); !slices.Equal(got, reversed(want)) {
		t.Fatalf("%+q behind %+q, from behind: %v, want %v", b, a, got, reversed(want))
	}
}

// P9.3: two texts one behind the other.
func TestBehind(t *testing.T) {
	for _, x := range samples() {
		p, c := parsed(t, x.file), chance(5)
		for range 3000 {
			behind(t, p, c.text(x.pieces, c.below(6)), c.text(x.pieces, c.below(6)))
		}
	}
}

// P9.3: with an edge between, without one, and where bytes of both make up a unit.
func TestBehindExamples(t *testing.T) {
	p := parsed(t, file)
	for _, x := range []struct {
		a, b string
		want []string
	}{
		{"ab", "cd", []string{"a", "b", "c", "d"}},
		{"ab", "\u0300c", []string{"a", "b\u0300", "c"}},
		{"ab\u200d", "cd", []string{"a", "b\u200dc", "d"}},
		{"a\r", "\nb", []string{"a", "\r\n", "b"}},
		{"a\r\n", "\nb", []string{"a", "\r\n", "\n", "b"}},
		{"a\u1100", "\u1161\u11a8b", []string{"a", "\u1100\u1161\u11a8", "b"}},
		{"a\xff", "\u0300b", []string{"a", "\xff", "\u0300", "b"}},
		{"a\xcc", "\x80b", []string{"a\u0300", "b"}},
		{"a\xe2\x80", "\x8db", []string{"a\u200db"}},
		{"a\xe2", "\x80\x8d\u0300b", []string{"a\u200d\u0300", "b"}},
		{"\u1100\xe1\x85", "\xa1\u11a8", []string{"\u1100\u1161\u11a8"}},
		{"\xf0\x9f\x98", "\x80\u0300", []string{"\U0001f600\u0300"}},
		{"", "\u0300a", []string{"\u0300", "a"}},
		{"a\u0300", "", []string{"a\u0300"}},
	} {
		holds(t, p, x.want...)
		behind(t, p, x.a, x.b)
		if got := len(listed(cells.All(p, x.a+x.b))); got != len(x.want) {
			t.Errorf("%+q behind %+q: %d cells", x.b, x.a, got)
		}
	}
}

// P9.3: where an edge lies hangs on the two units beside it alone, whatever stands around them.
func TestTwoUnitsAlone(t *testing.T) {
	for _, x := range samples() {
		p, c := parsed(t, x.file), chance(7)
		for range 4000 {
			s := c.text(x.pieces, 2+c.below(8))
			row := plainUnits(s)
			for i := 1; i < len(row); i++ {
				a, b := s[row[i-1].from:row[i-1].to], s[row[i].from:row[i].to]
				if len(plainUnits(a+b)) != 2 {
					t.Fatalf("the test itself is wrong of %+q", s)
				}
				if cells.Edge(p, s, row[i].from) != cells.Edge(p, a+b, len(a)) {
					t.Fatalf("%+q at %d: not as of %+q alone", s, row[i].from, a+b)
				}
			}
		}
	}
}
