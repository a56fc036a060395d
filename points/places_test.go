package points_test

import (
	"fmt"
	"math"
	"strings"
	"sync"
	"testing"
	"unicode/utf16"

	"glossary/api"
	"glossary/points"
)

// told is all that the places of a text tell of one byte.
func told(p *points.Places, at int) place {
	var x place
	x.unit, x.begins = p.Unit(at)
	x.wide = p.Wide(at)
	x.line, x.column = p.Line(at)
	return x
}

// wrongIn tells the first thing that is wrong with what is told of bytes and of units, within a text and outside of it, held against the units themselves.
func wrongIn(s string, p *points.Places) string {
	l := unitsOf(s)
	if p.Units() != len(l) {
		return fmt.Sprintf("%x: %d units; want %d", s, p.Units(), len(l))
	}
	for at := -2; at <= len(s)+2; at++ {
		if got, want := told(p, at), placeOf(l, at); got != want {
			return fmt.Sprintf("%x, byte %d: %+v; want %+v", s, at, got, want)
		}
	}
	for n := -2; n <= len(l)+2; n++ {
		want := 0
		switch {
		case n >= len(l):
			want = len(s)
		case n >= 0:
			want = l[n].at
		}
		if at := p.Byte(n); at != want {
			return fmt.Sprintf("%x: Byte(%d) = %d; want %d", s, n, at, want)
		}
	}
	return ""
}

// measured stops the test at the first text of which something is told that is wrong.
func measured(t *testing.T, s string) {
	t.Helper()
	if wrong := wrongIn(s, points.Measure(s)); wrong != "" {
		t.Fatal(wrong)
	}
}

// P2.4: the chapter's examples.
func TestPlacesExamples(t *testing.T) {
	p := points.Measure("a\U0001f468\né")
	if p.Units() != 4 {
		t.Errorf("Units() = %d", p.Units())
	}
	for _, x := range []struct{ unit, at int }{{1, 1}, {2, 5}, {4, 8}, {9, 8}, {-3, 0}, {0, 0}, {3, 6}} {
		if at := p.Byte(x.unit); at != x.at {
			t.Errorf("Byte(%d) = %d; want %d", x.unit, at, x.at)
		}
	}
	for _, x := range []struct {
		at     int
		unit   int
		begins bool
	}{{1, 1, true}, {3, 1, false}, {5, 2, true}, {8, 4, true}, {-1, 0, true}, {7, 3, false}, {0, 0, true}, {9, 4, true}} {
		if n, begins := p.Unit(x.at); n != x.unit || begins != x.begins {
			t.Errorf("Unit(%d) = %d, %v; want %d, %v", x.at, n, begins, x.unit, x.begins)
		}
	}
	for _, x := range []struct{ at, wide int }{{1, 1}, {3, 1}, {5, 3}, {8, 5}, {-1, 0}, {99, 5}} {
		if wide := p.Wide(x.at); wide != x.wide {
			t.Errorf("Wide(%d) = %d; want %d", x.at, wide, x.wide)
		}
	}
	for _, x := range []struct{ at, line, column int }{{5, 1, 3}, {7, 2, 1}, {8, 2, 2}, {6, 2, 1}, {-1, 1, 1}, {0, 1, 1}, {99, 2, 2}} {
		if line, column := p.Line(x.at); line != x.line || column != x.column {
			t.Errorf("Line(%d) = %d, %d; want %d, %d", x.at, line, column, x.line, x.column)
		}
	}
}

// P2.4: the empty text, in which every byte is its length or lies ahead of it.
func TestPlacesOfNothing(t *testing.T) {
	p := points.Measure("")
	for _, at := range []int{math.MinInt, -1, 0, 1, math.MaxInt} {
		if x := told(p, at); x != (place{0, true, 0, 1, 1}) || p.Byte(at) != 0 || p.Units() != 0 {
			t.Errorf("byte %d of nothing: %+v, Byte %d, Units %d", at, x, p.Byte(at), p.Units())
		}
	}
}

// P2.4: every byte of every text, and those next to it.
func TestPlaces(t *testing.T) {
	texts(func(s string) { measured(t, s) })
}

// P2.4: longer texts of all lengths, so that each kind of unit stands at each byte and across each byte of what is summed up together.
func TestPlacesOfLongTexts(t *testing.T) {
	for _, x := range []string{"a", "é", "€", "😀", "\n", "\xff", "\xf0\x9f\x98", "é\n", "😀\xe2\x82\n", "a\U0001f468\né", "\xef\xbf\xbd\xef\xbf"} {
		for n := range 5 {
			s := strings.Repeat("b", n) + strings.Repeat(x, 140/len(x)+1)
			for end := len(s) - 9; end <= len(s); end++ {
				measured(t, s[:end])
			}
		}
	}
	all := strings.Join(longer(), "")
	measured(t, strings.Repeat(all, 3))
	for _, n := range []int{63, 64, 65, 127, 128, 129, 255, 256, 257, 1023, 1024, 1025} {
		s := strings.Repeat("a", n)
		for _, x := range []string{"", "\n", "😀", "\n\n", "\xf0\x9f\x98"} {
			measured(t, s+x)
			measured(t, x+s)
		}
	}
}

// P2.4: bytes and units that lie far outside of the text.
func TestPlacesOutside(t *testing.T) {
	for _, s := range append(longer(), "", "\n", "\xff", "😀", strings.Repeat("é\n", 64)) {
		p, l := points.Measure(s), unitsOf(s)
		for _, at := range []int{math.MinInt, -1 << 32, -64, -1, len(s), len(s) + 1, len(s) + 64, 1 << 32, math.MaxInt} {
			if got, want := told(p, at), placeOf(l, at); got != want {
				t.Errorf("%x, byte %d: %+v; want %+v", s, at, got, want)
			}
			want := len(s)
			if at < 0 {
				want = 0
			}
			if p.Byte(at) != want {
				t.Errorf("%x: Byte(%d) = %d; want %d", s, at, p.Byte(at), want)
			}
		}
	}
}

// P2.4: a line ends with a byte 0a, and with nothing else.
func TestLines(t *testing.T) {
	for _, x := range []struct {
		s            string
		line, column int // of its end
	}{
		{"", 1, 1}, {"\n", 2, 1}, {"\n\n", 3, 1}, {"a\n", 2, 1}, {"\na", 2, 2}, {"a\r\nb", 2, 2}, {"\ra", 1, 3}, {"a\v\f\u0085\u2028\u2029\x8a\x0b", 1, 9},
		{"\xc3\n\xa9", 2, 2}, {"\n\xff\xfe😀é\xef\xbf\xbd", 2, 6}, {"\u010a\u0a0a", 1, 3}, {"\U00010a0a\n\U0001f600", 2, 2},
	} {
		if line, column := points.Measure(x.s).Line(len(x.s)); line != x.line || column != x.column {
			t.Errorf("%x: its end is at %d, %d; want %d, %d", x.s, line, column, x.line, x.column)
		}
	}
}

// P2.4: what is two pairs wide: characters above FFFF alone, not ill-formed bytes, whatever their points.
func TestWide(t *testing.T) {
	for _, x := range []struct {
		s    string
		wide int
	}{
		{"\xef\xbf\xbf", 1}, {"\xf0\x90\x80\x80", 2}, {"\xf4\x8f\xbf\xbf", 2}, {"\xf4\x90\x80\x80", 4}, {"\xff", 1}, {"\x80\xff", 2}, {"\xf0\x9f\x98", 3},
		{"\xed\xa0\xbd\xed\xb8\x80", 6}, {"\xef\xbf\xbd", 1}, {"é€", 2},
	} {
		if wide := points.Measure(x.s).Wide(len(x.s)); wide != x.wide {
			t.Errorf("%x is %d wide; want %d", x.s, wide, x.wide)
		}
	}
}

// P2.7: units and bytes there and back, and the width beside Go's own UTF-16.
func TestThereAndBack(t *testing.T) {
	check := func(s string) {
		p := points.Measure(s)
		n := p.Units()
		if p.Byte(0) != 0 || p.Byte(n) != len(s) {
			t.Fatalf("%x: its units lie from %d to %d", s, p.Byte(0), p.Byte(n))
		}
		for i := range n + 1 {
			if back, begins := p.Unit(p.Byte(i)); back != i || !begins {
				t.Fatalf("%x: Unit(Byte(%d)) = %d, %v", s, i, back, begins)
			}
			if step := p.Byte(i+1) - p.Byte(i); i < n && (step < 1 || step > 4) {
				t.Fatalf("%x: Byte rises by %d behind %d", s, step, i)
			}
		}
		if wide := len(utf16.Encode([]rune(s))); p.Wide(len(s)) != wide {
			t.Fatalf("%x is %d wide; UTF-16 has %d", s, p.Wide(len(s)), wide)
		}
	}
	texts(check)
	check(strings.Repeat(strings.Join(longer(), ""), 50))
}

// R1: a long text is measured in one go, and each of its places found without going through it again.
func TestPlacesOfALongText(t *testing.T) {
	for _, x := range []string{"a", "😀", "\n", "\xff", "a\U0001f468\né\xff"} {
		n := api.MaxText / len(x)
		s, l := strings.Repeat(x, n), unitsOf(x)
		end := placeOf(l, len(x))
		p := points.Measure(s)
		if p.Units() != n*len(l) {
			t.Fatalf("%x, %d times: %d units", x, n, p.Units())
		}
		for at := 0; at < len(s); at += 7 {
			times, want := at/len(x), placeOf(l, at%len(x))
			got := told(p, at)
			if got.unit != times*end.unit+want.unit || got.begins != want.begins || got.wide != times*end.wide+want.wide || got.line != times*(end.line-1)+want.line {
				t.Fatalf("%x, %d times, byte %d: %+v", x, n, at, got)
			}
			if from := times*len(x) + l[want.unit].at; p.Byte(got.unit) != from {
				t.Fatalf("%x, %d times: Byte(%d) = %d; want %d", x, n, got.unit, p.Byte(got.unit), from)
			}
		}
	}
}

// R5: what is told hangs on the text alone, not on what was asked ahead, nor on other texts that are measured, nor on who asks beside.
func TestPlacesAreKept(t *testing.T) {
	a, b := "a\U0001f468\né", "\n\n\xff😀\xe2\x82"
	p, q := points.Measure(a), points.Measure(b)
	ask := func() {
		for range 2 {
			if wrong := wrongIn(b, q) + wrongIn(a, p); wrong != "" {
				t.Error(wrong)
			}
		}
	}
	ask()
	var group sync.WaitGroup
	for range 4 {
		group.Go(ask)
	}
	group.Wait()
}
