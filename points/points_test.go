package points_test

import (
	"errors"
	"math"
	"slices"
	"strings"
	"testing"

	"glossary/api"
	"glossary/points"
)

// The calls have the signatures that the chapter lists.
var (
	_ func(string) []rune                   = points.Of
	_ func([]rune) (string, error)          = points.Text
	_ func(string, int) (rune, int)         = points.Next
	_ func(string) *points.Places           = points.Measure
	_ func(*points.Places) int              = (*points.Places).Units
	_ func(*points.Places, int) int         = (*points.Places).Byte
	_ func(*points.Places, int) int         = (*points.Places).Wide
	_ func(*points.Places, int) (int, bool) = (*points.Places).Unit
	_ func(*points.Places, int) (int, int)  = (*points.Places).Line
)

// numbers are the first and last points of each kind, and what is next to them.
var numbers = []rune{
	0, 1, 0x0a, 0x61, 0x7f, 0x80, 0xa9, 0xc3, 0xff, 0x7ff, 0x800, 0xd7ff, 0xd800, 0xdbff, 0xdc00, 0xdfff, 0xe000, 0xfffd, 0xfffe, 0xffff, 0x10000, 0x10fffd, 0x10ffff,
	0x110000, 0x11007f, 0x110080, 0x1100a9, 0x1100c3, 0x1100ff, 0x110100, 0x110180, 0x210080, -1, -0x80, math.MinInt32, math.MaxInt32,
}

// refused tells what is wrong with an error that should be ErrPoint at this place of a list.
func refused(e error, at int) string {
	var f api.Fault
	if !errors.As(e, &f) {
		return "no place is told"
	}
	if f.No != api.ErrPoint || f.Line != 0 || f.At != at {
		return "another place, or another number"
	}
	for n := api.OK; n <= api.ErrBracket; n++ {
		if errors.Is(e, n) != (n == api.ErrPoint) {
			return "it is told to be what it isn't, or not what it is: " + n.Error()
		}
	}
	return ""
}

// P2.1: the chapter's examples, and the edges of what is a character's UTF-8.
func TestOfExamples(t *testing.T) {
	for _, x := range []struct {
		s    string
		want []rune
	}{
		{"aé\xff\xe2\x82€\xed\xa0\x80", []rune{0x61, 0xe9, 0x1100ff, 0x1100e2, 0x110082, 0x20ac, 0x1100ed, 0x1100a0, 0x110080}},
		{"\xef\xbf\xbd\xff", []rune{0xfffd, 0x1100ff}},
		{"é", []rune{0xe9}},
		{"", nil},
		{"\x00\x7f\x80\xff", []rune{0, 0x7f, 0x110080, 0x1100ff}},
		{"\xc0\x80\xe0\x80\x80", []rune{0x1100c0, 0x110080, 0x1100e0, 0x110080, 0x110080}},
		{"\xf4\x8f\xbf\xbf\xf4\x90\x80\x80", []rune{0x10ffff, 0x1100f4, 0x110090, 0x110080, 0x110080}},
		{"\xed\x9f\xbf\xed\xa0\x80\xee\x80\x80", []rune{0xd7ff, 0x1100ed, 0x1100a0, 0x110080, 0xe000}},
		{"\xef\xbf\xef\xbf\xbd\xbd", []rune{0x1100ef, 0x1100bf, 0xfffd, 0x1100bd}},
	} {
		if l := points.Of(x.s); !slices.Equal(l, x.want) {
			t.Errorf("Of(%x) = %x; want %x", x.s, l, x.want)
		}
	}
}

// P2.1: every text.
func TestOf(t *testing.T) {
	texts(func(s string) {
		if l, want := points.Of(s), pointsOf(s); !slices.Equal(l, want) {
			t.Fatalf("Of(%x) = %x; want %x", s, l, want)
		}
	})
}

// P2.2: the chapter's examples.
func TestTextExamples(t *testing.T) {
	for _, x := range []struct {
		l    []rune
		want string
	}{
		{[]rune{0x61, 0x1100ff, 0x1f468}, "a\xff\xf0\x9f\x91\xa8"}, {[]rune{0x1100c3, 0x1100a9}, "é"}, {nil, ""}, {[]rune{}, ""}, {[]rune{0}, "\x00"},
		{[]rune{0xfffd, 0x1100ef}, "\xef\xbf\xbd\xef"},
	} {
		if s, e := points.Text(x.l); s != x.want || e != nil {
			t.Errorf("Text(%x) = %x, %v; want %x", x.l, s, e, x.want)
		}
	}
	for _, x := range []struct {
		l  []rune
		at int
	}{{[]rune{0x61, 0xd800}, 1}, {[]rune{0x110079}, 0}, {[]rune{-1}, 0}, {[]rune{0x61, 0x62, 0x110100, -1, 0xd800}, 2}, {[]rune{0xdfff, 0x61}, 0}} {
		s, e := points.Text(x.l)
		if wrong := refused(e, x.at); s != "" || wrong != "" {
			t.Errorf("Text(%x) = %x, %v: %s", x.l, s, e, wrong)
		}
	}
}

// P2.2: each number that is a point or next to one, ahead of others and behind them.
func TestText(t *testing.T) {
	check := func(l ...rune) {
		bad := slices.IndexFunc(l, func(r rune) bool { return !isPoint(r) })
		s, e := points.Text(l)
		if bad >= 0 {
			if wrong := refused(e, bad); s != "" || wrong != "" {
				t.Fatalf("Text(%x) = %x, %v: %s", l, s, e, wrong)
			}
			return
		}
		want := ""
		for _, r := range l {
			want += bytesOf(r)
		}
		if s != want || e != nil {
			t.Fatalf("Text(%x) = %x, %v; want %x", l, s, e, want)
		}
	}
	for r := rune(-0x200); r <= 0x110400; r++ {
		check(r)
	}
	for _, a := range numbers {
		check(a)
		for _, b := range numbers {
			check(a, b)
			for _, c := range numbers {
				check(a, b, c)
			}
		}
	}
}

// P2.3: the chapter's examples.
func TestNextExamples(t *testing.T) {
	for _, x := range []struct {
		s    string
		at   int
		r    rune
		wide int
	}{
		{"é", 0, 0xe9, 2}, {"é", 1, 0x1100a9, 1}, {"é", 2, 0, 0}, {"é", -1, 0, 0}, {"", 0, 0, 0}, {"\x00", 0, 0, 1},
		{"\xef\xbf\xbd", 0, 0xfffd, 3}, {"\xef\xbf\xbd", 1, 0x1100bf, 1}, {"\xef\xbf\xbd", 2, 0x1100bd, 1}, {"\xff", 0, 0x1100ff, 1},
		{"\xf0\x9f\x91\xa8", 0, 0x1f468, 4}, {"\xf0\x9f\x91\xa8", 1, 0x11009f, 1}, {"\xf0\x9f\x91", 0, 0x1100f0, 1},
	} {
		if r, wide := points.Next(x.s, x.at); r != x.r || wide != x.wide {
			t.Errorf("Next(%x, %d) = %x, %d; want %x, %d", x.s, x.at, r, wide, x.r, x.wide)
		}
	}
}

// P2.3: at every byte of every text, be it a place or not; and outside of them.
func TestNext(t *testing.T) {
	texts(func(s string) {
		for at := range len(s) {
			want := unitAt(s, at)
			if r, wide := points.Next(s, at); r != want.point || wide != want.wide {
				t.Fatalf("Next(%x, %d) = %x, %d; want %x, %d", s, at, r, wide, want.point, want.wide)
			}
		}
	})
	for _, s := range append(longer(), "", "a", "\xff", "\xef\xbf\xbd") {
		n := len(s)
		for _, at := range []int{-1, -2, -n - 1, math.MinInt, n, n + 1, n + 4, math.MaxInt} {
			if r, wide := points.Next(s, at); r != 0 || wide != 0 {
				t.Fatalf("Next(%x, %d) = %x, %d", s, at, r, wide)
			}
		}
	}
}

// P2.5: every text comes back from its points, byte for byte.
func TestTextsComeBack(t *testing.T) {
	texts(func(s string) {
		if back, e := points.Text(points.Of(s)); back != s || e != nil {
			t.Fatalf("Text of Of of %x = %x, %v", s, back, e)
		}
	})
}

// P2.5: rows of characters come back from their texts, as Go's own conversions have it; rows with ill-formed bytes need not.
func TestRowsComeBack(t *testing.T) {
	check := func(l ...rune) {
		s, e := points.Text(l)
		if e != nil || s != string(l) || !slices.Equal([]rune(s), l) || !slices.Equal(points.Of(s), l) {
			t.Fatalf("Text(%x) = %x, %v; its Of is %x", l, s, e, points.Of(s))
		}
	}
	check()
	var all []rune
	for r := rune(0); r <= api.MaxChar; r++ {
		if isChar(r) {
			check(r)
			all = append(all, r)
		}
	}
	check(all...)
	chars := slices.DeleteFunc(slices.Clone(numbers), func(r rune) bool { return !isChar(r) })
	for _, a := range chars {
		for _, b := range chars {
			check(a, b)
			check(b, a, b)
		}
	}
	s, _ := points.Text([]rune{0x1100c3, 0x1100a9})
	if l := points.Of(s); !slices.Equal(l, []rune{0xe9}) {
		t.Fatalf("Of of Text of c3, a9 = %x", l)
	}
}

// P2.6: beside Go's own conversion and its own range.
func TestBesideGo(t *testing.T) {
	texts(func(s string) {
		l, runes := points.Of(s), []rune(s)
		if len(l) != len(runes) {
			t.Fatalf("Of(%x) is %d long, []rune %d", s, len(l), len(runes))
		}
		p := points.Measure(s)
		n := 0
		for at, r := range s {
			next, wide := points.Next(s, at)
			if r == 0xfffd && wide == 1 {
				if l[n] != 0x110000+rune(s[at]) || runes[n] != 0xfffd {
					t.Fatalf("%x: unit %d is %x; []rune has %x", s, n, l[n], runes[n])
				}
			} else if l[n] != r || runes[n] != r {
				t.Fatalf("%x: unit %d is %x; []rune has %x", s, n, l[n], runes[n])
			}
			if next != l[n] || p.Byte(n) != at {
				t.Fatalf("%x: range comes to %d, Byte(%d) is %d; Next there is %x, Of has %x", s, at, n, p.Byte(n), next, l[n])
			}
			n++
		}
		if n != len(l) || n != p.Units() {
			t.Fatalf("%x: range tells %d units, Of %d, Units %d", s, n, len(l), p.Units())
		}
	})
}

// P2.8: points in order are characters as their UTF-8 stands, and all ill-formed bytes behind them.
func TestPointsInOrder(t *testing.T) {
	text := func(r rune) string {
		s, e := points.Text([]rune{r})
		if e != nil {
			t.Fatalf("Text(%x): %v", r, e)
		}
		return s
	}
	last := ""
	for r := rune(0); r <= api.MaxChar; r++ {
		if !isChar(r) {
			continue
		}
		s := text(r)
		if r > 0 && s <= last {
			t.Fatalf("%x is %x, and stands ahead of %x", r, s, last)
		}
		if l := points.Of(s); len(l) != 1 || l[0] != r {
			t.Fatalf("Of(%x) = %x", s, l)
		}
		last = s
	}
	behind := points.Of("\U0010ffff")[0]
	for b := 0x80; b <= 0xff; b++ {
		l := points.Of(string([]byte{byte(b)}))
		if len(l) != 1 || l[0] <= behind || text(l[0]) != string([]byte{byte(b)}) {
			t.Fatalf("Of(%x) = %x, which should stand behind %x", b, l, behind)
		}
		behind = l[0]
	}
}

// R4: no call changes or keeps what it is given, and no answers share memory, their spare room included.
func TestMemory(t *testing.T) {
	room := []rune{0x61, 0x1100ff, 0xe9, 0x1234, 0x5678}
	l := room[:3]
	s, e := points.Text(l)
	if !slices.Equal(room, []rune{0x61, 0x1100ff, 0xe9, 0x1234, 0x5678}) {
		t.Errorf("Text has changed its list: %x", room)
	}
	l[0], l[1] = 0x62, 0x63
	if s != "a\xff\xc3\xa9" || e != nil {
		t.Errorf("Text has kept its list: %x, %v", s, e)
	}
	for _, s := range longer() {
		a, b := points.Of(s), points.Of(s)
		for i := range a[:cap(a)] {
			a[:cap(a)][i] = -7
		}
		if slices.Contains(b[:cap(b)], -7) || !slices.Equal(b, pointsOf(s)) || !slices.Equal(points.Of(s), b) {
			t.Errorf("Of(%x): two answers share memory", s)
		}
	}
}

// R1: a long text of one kind is gone through in one go.
func TestLong(t *testing.T) {
	const n = api.MaxText / 4
	for _, x := range []string{"a", "\xf0\x9f\x98", "\xff", "😀", "\xe2\x82a", "\xef\xbf\xbd", "é\n"} {
		s, want := strings.Repeat(x, n), pointsOf(x)
		l := points.Of(s)
		if len(l) != n*len(want) {
			t.Fatalf("%x, %d times: %d points", x, n, len(l))
		}
		for i, r := range l {
			if r != want[i%len(want)] {
				t.Fatalf("%x, %d times: point %d is %x", x, n, i, r)
			}
		}
		if back, e := points.Text(l); back != s || e != nil {
			t.Errorf("%x, %d times: it doesn't come back: %v", x, n, e)
		}
		_, e := points.Text(append(l, 0xd800))
		if wrong := refused(e, len(l)); wrong != "" {
			t.Errorf("%x, %d times, and no point: %s", x, n, wrong)
		}
	}
}
