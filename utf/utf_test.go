package utf_test

import (
	"iter"
	"math"
	"slices"
	"strings"
	"testing"

	"glossary/utf"
)

// The calls have the signatures that the chapter lists.
var (
	_ func(string, int) (rune, int)     = utf.Decode
	_ func(string, int) (rune, int)     = utf.Before
	_ func(rune) string                 = utf.Encode
	_ func(string) bool                 = utf.Full
	_ func(string) bool                 = utf.Valid
	_ func(string) int                  = utf.Count
	_ func(string) iter.Seq2[int, rune] = utf.All
	_ func(string) iter.Seq2[int, rune] = utf.Back
	_ func(string) []rune               = utf.Runes
	_ func([]rune) string               = utf.Text
	_ func(string) iter.Seq2[int, int]  = utf.Bad
	_ func(string, string, bool) string = utf.Mend
)

// P1.1: the chapter's examples.
func TestDecodeBeforeExamples(t *testing.T) {
	for _, x := range []struct {
		s    string
		at   int
		r    rune
		wide int
	}{
		{"\x41\xc3\xa9", 0, 0x41, 1}, {"\x41\xc3\xa9", 1, 0xe9, 2}, {"\x41\xc3\xa9", 2, 0xfffd, 1}, {"\x41\xc3\xa9", 3, 0xfffd, 0}, {"\x41\xc3\xa9", -1, 0xfffd, 0},
		{"\xef\xbf\xbd", 0, 0xfffd, 3}, {"\xed\xa0\x80", 0, 0xfffd, 1}, {"\xc0\x80", 0, 0xfffd, 1}, {"\xf4\x90\x80\x80", 0, 0xfffd, 1}, {"\xf0\x9f\x98\x80", 0, 0x1f600, 4},
	} {
		if r, wide := utf.Decode(x.s, x.at); r != x.r || wide != x.wide {
			t.Errorf("Decode(%x, %d) = %x, %d; want %x, %d", x.s, x.at, r, wide, x.r, x.wide)
		}
	}
	for _, x := range []struct {
		at   int
		r    rune
		wide int
	}{{3, 0xe9, 2}, {2, 0xfffd, 1}, {1, 0x41, 1}, {0, 0xfffd, 0}, {4, 0xfffd, 0}} {
		if r, wide := utf.Before("\x41\xc3\xa9", x.at); r != x.r || wide != x.wide {
			t.Errorf("Before(%d) = %x, %d; want %x, %d", x.at, r, wide, x.r, x.wide)
		}
	}
}

// P1.1: at every byte of every text, be it a place or not.
func TestDecodeBefore(t *testing.T) {
	texts(func(s string) {
		for at := range len(s) {
			want := unitAt(s, at)
			if r, wide := utf.Decode(s, at); r != want.r || wide != want.wide {
				t.Errorf("Decode(%x, %d) = %x, %d; want %x, %d", s, at, r, wide, want.r, want.wide)
			}
			want = unitTo(s, at+1)
			if r, wide := utf.Before(s, at+1); r != want.r || wide != want.wide {
				t.Errorf("Before(%x, %d) = %x, %d; want %x, %d", s, at+1, r, wide, want.r, want.wide)
			}
		}
	})
}

// P1.1: what lies outside of the text.
func TestDecodeBeforeOutside(t *testing.T) {
	for _, s := range append(longer(), "", "a", "\xff", "\xef\xbf\xbd") {
		n := len(s)
		for _, at := range []int{-1, -2, -n - 1, math.MinInt, n, n + 1, n + 4, math.MaxInt} {
			if r, wide := utf.Decode(s, at); r != 0xfffd || wide != 0 {
				t.Errorf("Decode(%x, %d) = %x, %d", s, at, r, wide)
			}
		}
		for _, at := range []int{0, -1, -n, math.MinInt, n + 1, n + 2, math.MaxInt} {
			if r, wide := utf.Before(s, at); r != 0xfffd || wide != 0 {
				t.Errorf("Before(%x, %d) = %x, %d", s, at, r, wide)
			}
		}
	}
}

// P1.1, P1.2: every character, and what is next to the characters.
func TestEncode(t *testing.T) {
	check := func(r rune) {
		want := "\xef\xbf\xbd"
		if isChar(r) {
			want = bytesOf(r)
		}
		s := utf.Encode(r)
		if s != want || s != string(r) {
			t.Errorf("Encode(%x) = %x; want %x", r, s, want)
		}
		if !isChar(r) {
			r = 0xfffd
		}
		if got, wide := utf.Decode(s, 0); got != r || wide != len(want) {
			t.Errorf("Decode(%x, 0) = %x, %d; want %x, %d", s, got, wide, r, len(want))
		}
		if got, wide := utf.Before(s, len(s)); got != r || wide != len(want) {
			t.Errorf("Before(%x, %d) = %x, %d; want %x, %d", s, len(s), got, wide, r, len(want))
		}
	}
	for r := rune(-0x100); r <= 0x110200; r++ {
		check(r)
	}
	for _, r := range []rune{math.MinInt32, math.MaxInt32, 0x200041, -0x10ffff, 0x7fffff41} {
		check(r)
	}
}

// P1.2: the first and the last character of each length, and numbers that are none.
func TestEncodeEdges(t *testing.T) {
	for _, x := range []struct {
		r rune
		s string
	}{
		{0, "\x00"}, {0x7f, "\x7f"}, {0x80, "\xc2\x80"}, {0xe9, "\xc3\xa9"}, {0x7ff, "\xdf\xbf"}, {0x800, "\xe0\xa0\x80"},
		{0xd7ff, "\xed\x9f\xbf"}, {0xd800, "\xef\xbf\xbd"}, {0xdfff, "\xef\xbf\xbd"}, {0xe000, "\xee\x80\x80"}, {0xfffd, "\xef\xbf\xbd"}, {0xffff, "\xef\xbf\xbf"},
		{0x10000, "\xf0\x90\x80\x80"}, {0x10ffff, "\xf4\x8f\xbf\xbf"}, {0x110000, "\xef\xbf\xbd"}, {-1, "\xef\xbf\xbd"},
	} {
		if s := utf.Encode(x.r); s != x.s {
			t.Errorf("Encode(%x) = %x; want %x", x.r, s, x.s)
		}
	}
}

// P1.2: Text is Encode of each.
func TestText(t *testing.T) {
	if s := utf.Text([]rune{0x61, 0xd800, 0xe9}); s != "\x61\xef\xbf\xbd\xc3\xa9" {
		t.Errorf("Text = %x", s)
	}
	if utf.Text(nil) != "" || utf.Text([]rune{}) != "" {
		t.Error("Text of nothing is something")
	}
	numbers := []rune{0, 0x61, 0x7f, 0x80, 0x7ff, 0x800, 0xd7ff, 0xd800, 0xdfff, 0xe000, 0xfffd, 0xffff, 0x10000, 0x10ffff, 0x110000, -1, 0x1100ff, math.MinInt32, math.MaxInt32}
	for _, a := range numbers {
		for _, b := range numbers {
			for _, c := range numbers {
				if s := utf.Text([]rune{a, b, c}); s != utf.Encode(a)+utf.Encode(b)+utf.Encode(c) {
					t.Errorf("Text(%x, %x, %x) = %x", a, b, c, s)
				}
			}
		}
	}
}

// P1.3: the chapter's examples.
func TestWalksExamples(t *testing.T) {
	want := []unit{{at: 0, r: 0x61}, {at: 1, r: 0xfffd}, {at: 2, r: 0xfffd}, {at: 3, r: 0x62}, {at: 4, r: 0xe9}}
	var got []unit
	for at, r := range utf.All("\x61\xe2\x82\x62\xc3\xa9") {
		got = append(got, unit{at: at, r: r})
	}
	if !slices.Equal(got, want) {
		t.Errorf("All: %v", got)
	}
	got = nil
	for at, r := range utf.Back("\x61\xe2\x82\x62\xc3\xa9") {
		got = append(got, unit{at: at, r: r})
	}
	slices.Reverse(got)
	if !slices.Equal(got, want) {
		t.Errorf("Back: %v", got)
	}
	if l := utf.Runes("\xc3\x28"); !slices.Equal(l, []rune{0xfffd, 0x28}) {
		t.Errorf("Runes: %x", l)
	}
}

// P1.3: All, Back, Runes, Count, Valid of every text, and Go's own range beside them.
func TestWalks(t *testing.T) {
	texts(func(s string) {
		want := unitsOf(s)
		n := 0
		for at, r := range utf.All(s) {
			if n >= len(want) || want[n].at != at || want[n].r != r {
				t.Fatalf("All(%x): %d, %x as number %d", s, at, r, n)
			}
			n++
		}
		if n != len(want) || utf.Count(s) != n {
			t.Errorf("All(%x) tells %d, Count %d; want %d", s, n, utf.Count(s), len(want))
		}
		for at, r := range utf.Back(s) {
			n--
			if n < 0 || want[n].at != at || want[n].r != r {
				t.Fatalf("Back(%x): %d, %x as number %d", s, at, r, n)
			}
		}
		if n != 0 {
			t.Errorf("Back(%x) leaves out %d", s, n)
		}
		if l := utf.Runes(s); !slices.Equal(l, numbersOf(s)) {
			t.Errorf("Runes(%x) = %x", s, l)
		}
		if utf.Valid(s) != (illIn(s) == 0) {
			t.Errorf("Valid(%x) is %v", s, utf.Valid(s))
		}
		i := 0
		for at, r := range s {
			if want[i].at != at || want[i].r != r {
				t.Errorf("range over %x: %d, %x", s, at, r)
			}
			i++
		}
	})
}

// P1.4: the chapter's examples, and every text.
func TestFull(t *testing.T) {
	for _, s := range []string{"", "\xc3", "\xe2\x82", "\xf0\x9f\x98", "\xf4", "\xf4\x8f", "\xef\xbf", "\xe0\xa0", "\xed\x9f", "\xf0\x90"} {
		if utf.Full(s) {
			t.Errorf("Full(%x) is true", s)
		}
	}
	for _, s := range []string{"\xc3\xa9", "\x61\xc3", "\xc0", "\xe2\x28", "\xed\xa0", "\xf4\x90", "\xe0\x80", "\xe0\x9f", "\xc1", "\x80", "\xf5", "\xf0\x8f", "\xc3\x28\xc3", "\xe2\x82\xac\xe2"} {
		if !utf.Full(s) {
			t.Errorf("Full(%x) is false", s)
		}
	}
	texts(func(s string) {
		if utf.Full(s) != (s != "" && !heads()[s]) {
			t.Errorf("Full(%x) is %v", s, utf.Full(s))
		}
	})
}

func badOf(s string) []piece {
	var l []piece
	for at, wide := range utf.Bad(s) {
		l = append(l, piece{at, wide})
	}
	return l
}

// P1.5: the chapter's examples, and every text.
func TestBad(t *testing.T) {
	for _, x := range []struct {
		s    string
		want []piece
	}{
		{"\x61\xe2\x82\x62\xc3", []piece{{1, 2}, {4, 1}}}, {"\xf0\x9f\x98\xf0\x9f", []piece{{0, 3}, {3, 2}}}, {"\xed\xa0\x80", []piece{{0, 1}, {1, 1}, {2, 1}}},
		{"\xf4\x90", []piece{{0, 1}, {1, 1}}}, {"\x80\x80", []piece{{0, 1}, {1, 1}}}, {"", nil}, {"aé€😀\xef\xbf\xbd", nil},
		{"\xc3\xc3\xa9\xc3", []piece{{0, 1}, {3, 1}}}, {"\xf4\x8f\xbf\xef\xbf\xbd\xf4\x8f\xbf", []piece{{0, 3}, {6, 3}}}, {"\xe2\x82\xe2\x82\xac\xac", []piece{{0, 2}, {5, 1}}},
	} {
		if l := badOf(x.s); !slices.Equal(l, x.want) {
			t.Errorf("Bad(%x): %v; want %v", x.s, l, x.want)
		}
	}
	texts(func(s string) {
		if l := badOf(s); !slices.Equal(l, piecesOf(s)) {
			t.Errorf("Bad(%x): %v; want %v", s, l, piecesOf(s))
		}
	})
}

// P1.5: all bytes of a piece are ill-formed, and all ill-formed bytes are in a piece.
func TestBadBytes(t *testing.T) {
	texts(func(s string) {
		n := 0
		for at, wide := range utf.Bad(s) {
			for i := range wide {
				if !unitAt(s, at+i).ill {
					t.Errorf("Bad(%x): %d, %d, but byte %d isn't ill-formed", s, at, wide, at+i)
				}
			}
			n += wide
		}
		if n != illIn(s) {
			t.Errorf("Bad(%x) tells %d bytes of %d", s, n, illIn(s))
		}
	})
}

// P1.6: the chapter's examples, what is put in being of any kind, and every text.
func TestMend(t *testing.T) {
	for _, x := range []struct {
		s, by, whole, each string
	}{
		{"\x61\xe2\x82\x62", "?", "a?b", "a??b"}, {"", "?", "", ""}, {"\xff", "", "", ""}, {"\xf0\x9f\x98\xf0\x9f", "<>", "<><>", "<><><><><>"},
		// What is put in may be ill-formed, and may make up a character with what stands beside it: it is not looked at again.
		{"\xc3\xff", "\xa9", "\xa9\xa9", "\xa9\xa9"}, {"a\xffb", "\xc3", "a\xc3b", "a\xc3b"}, {"\xe2\x82\xff", "\xc3", "\xc3\xc3", "\xc3\xc3\xc3"}, {"\xff\xfe", "\xff\xfe", "\xff\xfe\xff\xfe", "\xff\xfe\xff\xfe"},
		{"\xef\xbf\xbd\xef\xbf", "!", "\xef\xbf\xbd!", "\xef\xbf\xbd!!"}, {"é\x80", "\xef\xbf\xbd", "é\xef\xbf\xbd", "é\xef\xbf\xbd"},
	} {
		if whole, each := utf.Mend(x.s, x.by, true), utf.Mend(x.s, x.by, false); whole != x.whole || each != x.each {
			t.Errorf("Mend(%x, %x): %x, %x; want %x, %x", x.s, x.by, whole, each, x.whole, x.each)
		}
	}
	texts(func(s string) {
		for _, whole := range []bool{true, false} {
			if m := utf.Mend(s, "<>", whole); m != mendedOf(s, "<>", whole) {
				t.Errorf("Mend(%x, <>, %v) = %x; want %x", s, whole, m, mendedOf(s, "<>", whole))
			}
		}
	})
	for _, s := range longer() {
		for _, by := range append(longer(), "") {
			if utf.Mend(s, by, true) != mendedOf(s, by, true) || utf.Mend(s, by, false) != mendedOf(s, by, false) {
				t.Errorf("Mend(%x, %x): %x, %x", s, by, utf.Mend(s, by, true), utf.Mend(s, by, false))
			}
		}
	}
}

// leave goes over an iterator from its beginning on, and leaves it behind n steps.
func leave[V any](l iter.Seq2[int, V], n int) []int {
	var got []int
	for at := range l {
		if len(got) == n {
			break
		}
		got = append(got, at)
	}
	return got
}

// again tells what is wrong with an iterator that is left, gone over again, and gone over within itself.
func again[V any](l iter.Seq2[int, V]) string {
	whole := leave(l, math.MaxInt)
	for n := range len(whole) + 2 {
		if !slices.Equal(leave(l, n), whole[:min(n, len(whole))]) {
			return "left ahead of its end it tells something else"
		}
	}
	var outer []int
	for at := range l {
		outer = append(outer, at)
		if inner := leave(l, len(outer)); !slices.Equal(inner, whole[:len(outer)]) {
			return "left within itself it tells something else"
		}
		if !slices.Equal(leave(l, math.MaxInt), whole) {
			return "gone over within itself it tells something else"
		}
	}
	if !slices.Equal(outer, whole) {
		return "gone over again it tells something else"
	}
	return ""
}

// P1.7: left ahead of the end, gone over again, and within itself.
func TestIterators(t *testing.T) {
	for _, s := range append(longer(), "", "a", "\xff", "\x80\x80\x80", "a\xe2\x82b\xc3\xf0\x9f\x98") {
		if wrong := again(utf.All(s)); wrong != "" {
			t.Errorf("All(%x): %s", s, wrong)
		}
		if wrong := again(utf.Back(s)); wrong != "" {
			t.Errorf("Back(%x): %s", s, wrong)
		}
		if wrong := again(utf.Bad(s)); wrong != "" {
			t.Errorf("Bad(%x): %s", s, wrong)
		}
	}
}

// P1.8: the units lie side by side and make up the text, forward and back.
func TestNothingIsLost(t *testing.T) {
	texts(func(s string) {
		at, n := 0, 0
		for place, r := range utf.All(s) {
			got, wide := utf.Decode(s, place)
			if place != at || got != r || wide < 1 {
				t.Errorf("%x: the unit at %d is %x, %d wide; All tells %d, %x", s, at, got, wide, place, r)
			}
			at += wide
			if back, v := utf.Before(s, at); back != got || v != wide {
				t.Errorf("Before(%x, %d) = %x, %d; Decode told %x, %d", s, at, back, v, got, wide)
			}
			n++
		}
		if at != len(s) || n != utf.Count(s) {
			t.Errorf("%x: %d units, as far as %d", s, n, at)
		}
		if (utf.Text(utf.Runes(s)) == s) != utf.Valid(s) {
			t.Errorf("Text of Runes of %x is %x", s, utf.Text(utf.Runes(s)))
		}
	})
}

// P1.8: the numbers come back just where all of them are characters.
func TestNumbersComeBack(t *testing.T) {
	for r := rune(-0x20); r <= 0x110020; r++ {
		if slices.Equal(utf.Runes(utf.Text([]rune{r})), []rune{r}) != isChar(r) {
			t.Errorf("Runes of Text of %x: %x", r, utf.Runes(utf.Text([]rune{r})))
		}
	}
	numbers := []rune{0, 0x61, 0x80, 0x7ff, 0x800, 0xd7ff, 0xd800, 0xdfff, 0xe000, 0xfffd, 0x10000, 0x10ffff, 0x110000, 0x1100c3, 0x1100a9, -1}
	for _, a := range numbers {
		for _, b := range numbers {
			l := []rune{a, b}
			if slices.Equal(utf.Runes(utf.Text(l)), l) != (isChar(a) && isChar(b)) {
				t.Errorf("Runes of Text of %x: %x", l, utf.Runes(utf.Text(l)))
			}
		}
	}
}

// P1.9: cut at a place or an end, and only there, the pieces have the units of the whole.
func TestCut(t *testing.T) {
	texts(func(s string) {
		whole := utf.Runes(s)
		places := map[int]bool{0: true, len(s): true}
		for at := range utf.All(s) {
			places[at] = true
		}
		for at := range len(s) + 1 {
			if slices.Equal(append(utf.Runes(s[:at]), utf.Runes(s[at:])...), whole) != places[at] {
				t.Errorf("%x cut at %d: %x, %x", s, at, utf.Runes(s[:at]), utf.Runes(s[at:]))
			}
		}
	})
}

// P1.10: a valid text stays; what is mended by a valid one is valid; pieces are counted; U+FFFD is what the numbers tell.
func TestMended(t *testing.T) {
	texts(func(s string) {
		whole, each := utf.Mend(s, "\xef\xbf\xbd", true), utf.Mend(s, "\xef\xbf\xbd", false)
		if utf.Valid(s) && (whole != s || each != s) {
			t.Errorf("Mend(%x): %x, %x", s, whole, each)
		}
		if !utf.Valid(whole) || !utf.Valid(each) || !utf.Valid(utf.Mend(s, "", true)) || !utf.Valid(utf.Mend(s, "", false)) {
			t.Errorf("%x is not valid once it is mended", s)
		}
		if each != utf.Text(utf.Runes(s)) {
			t.Errorf("Mend(%x, U+FFFD, false) = %x; the text of its numbers is %x", s, each, utf.Text(utf.Runes(s)))
		}
		if n := strings.Count(utf.Mend(s, "<by>", true), "<by>"); n != len(badOf(s)) {
			t.Errorf("Mend(%x) has %d; Bad tells %d", s, n, len(badOf(s)))
		}
	})
}

// R4: no call changes or keeps what it is given, and no answers share memory, their spare room included.
func TestMemory(t *testing.T) {
	room := []rune{0x61, 0xd800, 0xe9, 0x1234, 0x5678}
	l := room[:3]
	s := utf.Text(l)
	if !slices.Equal(room, []rune{0x61, 0xd800, 0xe9, 0x1234, 0x5678}) {
		t.Errorf("Text has changed its list: %x", room)
	}
	l[0] = 0x62
	if s != "a\xef\xbf\xbd\xc3\xa9" {
		t.Errorf("Text has kept its list: %x", s)
	}
	for _, s := range longer() {
		a, b := utf.Runes(s), utf.Runes(s)
		for i := range a[:cap(a)] {
			a[:cap(a)][i] = -7
		}
		if slices.Contains(b[:cap(b)], -7) || !slices.Equal(b, numbersOf(s)) {
			t.Errorf("Runes of %x: two answers share memory", s)
		}
	}
}

// R1: a long text of one kind is gone through in one go.
func TestLong(t *testing.T) {
	for _, x := range []struct {
		s                  string
		units, bad, pieces int
	}{{"a", 1, 0, 0}, {"\xf0\x9f\x98", 3, 3, 1}, {"\xff", 1, 1, 1}, {"😀", 1, 0, 0}, {"\xe2\x82a", 3, 2, 1}} {
		const n = 1 << 18
		s := strings.Repeat(x.s, n)
		if utf.Count(s) != n*x.units || len(utf.Runes(s)) != n*x.units || utf.Valid(s) != (x.bad == 0) || len(badOf(s)) != n*x.pieces {
			t.Errorf("%x, %d times: %d units, %d pieces", x.s, n, utf.Count(s), len(badOf(s)))
		}
		if m := utf.Mend(s, "??", false); len(m) != n*(len(x.s)+x.bad) {
			t.Errorf("%x, %d times: mended it has %d bytes", x.s, n, len(m))
		}
	}
}
