package table_test

import (
	"math"
	"slices"
	"strings"
	"testing"

	"glossary/api"
	"glossary/points"
	"glossary/table"
	"glossary/weights"
)

// matchesNone holds Match at what is no place of a row.
func matchesNone(t *testing.T, x *table.Table, l []rune, at int) {
	t.Helper()
	if w, places := x.Match(l, at); len(w) != 0 || len(places) != 0 {
		t.Errorf("Match(%x, %d): %v %v", l, at, w, places)
	}
}

// matches holds Match against the weights of these texts, and against these places.
func matches(t *testing.T, x *table.Table, c collator, l []rune, at int, texts []string, places ...int) {
	t.Helper()
	w, got := x.Match(l, at)
	if !slices.Equal(w, c.weigh(t, texts...)) || !slices.Equal(got, places) {
		t.Errorf("Match(%x, %d): %v %v, want those of %q at %v", l, at, w, got, texts, places)
	}
	matchesAlike(t, x, c, l)
}

// matchesAlike holds Match at each place of a row, and beside them, against the second way.
func matchesAlike(t *testing.T, x *table.Table, c collator, l []rune) {
	t.Helper()
	for at := -2; at <= len(l)+2; at++ {
		want, wanted := c.match(l, at)
		if w, places := x.Match(l, at); !slices.Equal(w, want) || !slices.Equal(places, wanted) {
			t.Fatalf("Match(%x, %d): %v %v, want %v %v", l, at, w, places, want, wanted)
		}
	}
}

// P13.3: what is no place of a row, and rows of none.
func TestMatchOutside(t *testing.T) {
	x, _ := both(t, example)
	for _, l := range [][]rune{nil, {}, {'c'}, []rune("ch"), []rune("cha\u0308ch")} {
		for _, at := range []int{-1, -2, len(l), len(l) + 1, math.MinInt, math.MaxInt, math.MinInt32, math.MaxInt32, 1<<32 - 1<<33, 1 << 32} {
			matchesNone(t, x, l, at)
		}
		matchesNone(t, x, l[:len(l):len(l)], len(l))
	}
	long := []rune("ch")
	matchesNone(t, x, long[:1], 1) // the h behind it is none of the row's
	matchesNone(t, x, long[:0], 0)
}

// P13.3: the longest piece is taken, however many points others have.
func TestMatchLongest(t *testing.T) {
	x, c := both(t, "& z < ab < abcd < bcd < abcdefgh < e / ab")
	for _, y := range []struct {
		row, text string
	}{
		{"a", "a"}, {"ab", "ab"}, {"abc", "ab"}, {"abcd", "abcd"}, {"abcde", "abcd"}, {"abcdefg", "abcd"}, {"abcdefgh", "abcdefgh"}, {"abcdefghi", "abcdefgh"}, {"abcdefghabcdefgh", "abcdefgh"},
		{"abcdefgi", "abcd"}, {"ac", "a"}, {"aab", "a"}, {"bcda", "bcd"}, {"bc", "b"}, {"bcab", "b"}, {"cdab", "c"}, {"b", "b"}, {"zab", "z"},
	} {
		matches(t, x, c, []rune(y.row), 0, []string{y.text}, upTo(0, len(y.text))...)
		ahead := append([]rune("ab\xff\u0308abc"), []rune(y.row)...)
		from := len(ahead) - len(y.row)
		matches(t, x, c, ahead, from, []string{y.text}, upTo(from, len(y.text))...)
	}
	matches(t, x, c, []rune("abe"), 2, []string{"e", "ab"}, 2)
}

// upTo are n places from one on.
func upTo(from, n int) []int {
	var all []int
	for i := range n {
		all = append(all, from+i)
	}
	return all
}

// P13.3: pieces of MaxPiece points, of four bytes each, of marks, of ill-formed bytes; in rows that are longer.
func TestMatchMaxPiece(t *testing.T) {
	p := parsed(t, file)
	for _, s := range []string{"aaaaaaaa", strings.Repeat("\U0010ffff", 8), strings.Repeat("\u0301", 8), strings.Repeat("\xff", 8), "a\u0327\u0323\u0301\u0301\u0301\u0301\u0345", "\u1100\u1161\u11a8\u1100\u1161\u11a8\u1100\u1161"} {
		r := of(reset("z"), relation(1, s, ""))
		x, c := tabled(t, p, r), second(t, p, r)
		row := points.Of(s)
		first, _ := points.Text(row[:1])
		matches(t, x, c, row, 0, []string{s}, upTo(0, 8)...)
		for _, behind := range [][]rune{row[7:], row, {0x345}, {'z', 0x345}, {0xd800}} {
			matches(t, x, c, slices.Concat(row, behind), 0, []string{s}, upTo(0, 8)...)
			matches(t, x, c, slices.Concat(behind, row), len(behind), []string{s}, upTo(len(behind), 8)...)
		}
		matches(t, x, c, row[:7], 0, []string{first}, 0)
	}
}

// markRules let marks be taken one by one, leave out what stands between, and begin with a mark.
const markRules = `& z < a\u{323} < a\u{323}\u{308} < a\u{308} < b\u{327}\u{308} < b\u{327}\u{308}\u{308} < ch\u{301} < \u{323}\u{301} < d\u{301}\u{345} / x < e\u{302} < e\u{302}\u{301} < f\u{327} < f\u{345} < g\u{308} < g\u{345}`

// P13.3: marks that stand further behind: taken, blocked by one of the same class and by one of a greater one, passed over.
func TestMatchMarks(t *testing.T) {
	x, c := both(t, markRules)
	for _, y := range []struct {
		row    string
		text   string
		places []int
	}{
		{"a\u0308", "a\u0308", []int{0, 1}},
		{"a\u0327\u0308", "a\u0308", []int{0, 2}},       // one passed over
		{"a\u0327\u0327\u0308", "a\u0308", []int{0, 3}}, // several
		{"a\u0327\u0323", "a\u0323", []int{0, 2}},
		{"a\u0327\u0323\u0308", "a\u0323\u0308", []int{0, 2, 3}}, // a second one behind a first
		{"a\u0323\u0308", "a\u0323\u0308", []int{0, 1, 2}},       // straight behind
		{"a\u0323\u0323\u0308", "a\u0323\u0308", []int{0, 1, 3}}, // the second one of the same class is passed over
		{"a\u0323\u0327\u0308", "a\u0323\u0308", []int{0, 1, 3}}, // not decomposed: the lesser one doesn't block
		{"a\u0323\u0301\u0308", "a\u0323", []int{0, 1}},          // 301 has the class of 308
		{"a\u0301\u0308", "a", []int{0}},
		{"a\u0301\u0323", "a", []int{0}}, // a greater one blocks
		{"a\u0345\u0323\u0308", "a", []int{0}},
		{"a\u0345\u0308", "a", []int{0}},
		{"a\u0308\u0323", "a\u0308", []int{0, 1}}, // what is taken doesn't block; but nobody goes on so
		{"a\u0308\u0345", "a\u0308", []int{0, 1}},
		{"a\u0327\u0345\u0308", "a", []int{0}}, // passed over, and then one that blocks
		{"a\u0302\u0308", "a", []int{0}},       // 302 has the class 0
		{"ax\u0308", "a", []int{0}},
		{"a\u0327x\u0308", "a", []int{0}},
		{"a\u0327\u0302\u0308", "a", []int{0}},
		{"a\u0323x\u0308", "a\u0323", []int{0, 1}},
		{"aa\u0308", "a", []int{0}},
		{"b\u0327\u0308", "b\u0327\u0308", []int{0, 1, 2}},
		{"b\u0327\u0308\u0308", "b\u0327\u0308\u0308", []int{0, 1, 2, 3}},
		{"b\u0327\u0323\u0308", "b", []int{0}}, // the text of two marks has no beginning with a seat
		{"b\u0327\u0308\u0323\u0308", "b\u0327\u0308\u0308", []int{0, 1, 2, 4}},
		{"b\u0308", "b", []int{0}},
		{"ch\u0323\u0301", "c", []int{0}}, // ch has no seat
		{"ch\u0301", "ch\u0301", []int{0, 1, 2}},
		{"\u0323\u0301", "\u0323\u0301", []int{0, 1}}, // a mark first
		{"\u0323\u0327\u0301", "\u0323\u0301", []int{0, 2}},
		{"\u0323\u0323\u0301", "\u0323\u0301", []int{0, 2}},
		{"\u0323\u0308\u0301", "\u0323", []int{0}},
		{"e\u0302\u0323\u0301", "e\u0302\u0301", []int{0, 1, 3}}, // of class 0 within the piece
		{"e\u0323\u0302", "e", []int{0}},                         // what has the class 0 is not taken over another
		{"f\u0323\u0327", "f", []int{0}},
		{"f\u0323\u0345", "f\u0345", []int{0, 2}},
		{"f\u0323\u0308\u0345", "f\u0345", []int{0, 3}},
		{"f\u0308\u0323\u0345", "f\u0345", []int{0, 3}},
		{"f\u0323\u0327\u0345", "f\u0345", []int{0, 3}}, // one is blocked, and another one behind it isn't
		{"g\u0301\u0308", "g", []int{0}},                // one that could be passed over to take another, but blocks its own class
		{"g\u0301\u0308\u0345", "g\u0345", []int{0, 3}},
		{"g\u0301\u0323\u0308", "g", []int{0}}, // what is blocked itself, and has a lesser class, doesn't make room
		{"g\u0323\u0308", "g\u0308", []int{0, 2}},
	} {
		matches(t, x, c, []rune(y.row), 0, []string{y.text}, y.places...)
		matches(t, x, c, []rune(y.row+"x\u0308"), 0, []string{y.text}, y.places...)
	}
	matches(t, x, c, []rune("d\u0323\u0301\u0345"), 0, []string{"d"}, 0)
	matches(t, x, c, []rune("d\u0301\u0345"), 0, []string{"d\u0301\u0345", "x"}, 0, 1, 2)
}

// P13.3: many marks, far behind: all are looked at, and they are told in time.
func TestMatchManyMarks(t *testing.T) {
	x, c := both(t, markRules)
	low := slices.Repeat([]rune{0x327}, 100000)
	row := slices.Concat([]rune("a"), low, []rune{0x323}, low, []rune{0x308})
	w, places := x.Match(row, 0)
	if want := []int{0, len(low) + 1, 2*len(low) + 2}; !slices.Equal(places, want) || !slices.Equal(w, c.weigh(t, "a\u0323\u0308")) {
		t.Error(w, places)
	}
	row = slices.Concat([]rune("a"), slices.Repeat([]rune{0x301}, 1000000), []rune{0x308})
	for at := range row {
		if w, places := x.Match(row, at); len(w) != 1 || len(places) != 1 || places[0] != at {
			t.Fatal(at, w, places)
		}
	}
}

// P13.3: what has no seat weighs what is plain: nothing, if it is no point; all of it stands alone.
func TestMatchNoSeat(t *testing.T) {
	x, c := both(t, `& a < A\u{300} < 'A' < \u{1100}\u{1161} < \u{fffd} < \u{308}`)
	for _, r := range []rune{0xc0, 0xc5, 0x1ea6, 0xac00, 0xac01, 0xd7a3, 0x2126, 0x344, 0xd800, 0xdfff, 0x110000, 0x11007f, 0x110100, -1, -2, -3, math.MinInt32, math.MaxInt32, 0x110000 + 0x110080} {
		for _, row := range [][]rune{{r}, {r, 0x300}, {r, 0x327, 0x308}, {r, r}, {r, 'a'}, {r, 'A', 0x300}} {
			if w, places := x.Match(row, 0); !slices.Equal(w, []api.Weight{weights.Plain(r)}) || !slices.Equal(places, []int{0}) {
				t.Errorf("Match(%x, 0): %v %v", row, w, places)
			}
			matchesAlike(t, x, c, row)
		}
		matches(t, x, c, []rune{'A', r, 0x300}, 0, []string{"A"}, 0)
		matches(t, x, c, []rune{'A', 0x327, r, 0x300}, 0, []string{"A"}, 0)
	}
}

// P13.3: ill-formed bytes that would be a character stand apart, as a row and in a seat's text.
func TestMatchIllFormed(t *testing.T) {
	x, c := both(t, `& a < \u{e9} < \xff\xfe < \xc3 < \xe2\x82 < \u{e9}x < c\xa9`)
	for _, y := range []struct {
		row    []rune
		text   string
		places int
	}{
		{[]rune{0xe9}, "\u00e9", 1},
		{[]rune{0x1100c3, 0x1100a9}, "\xc3", 1},
		{[]rune{0x1100a9, 0x1100c3}, "\xa9", 1},
		{[]rune{0x1100c3, 0x1100a9, 'x'}, "\xc3", 1},
		{[]rune{0xe9, 'x'}, "\u00e9x", 2},
		{[]rune{0x1100ff, 0x1100fe}, "\xff\xfe", 2},
		{[]rune{0x1100ff, 0x1100ff}, "\xff", 1},
		{[]rune{0x1100e2, 0x110082}, "\xe2\x82", 2},
		{[]rune{0x1100e2, 0x110082, 0x1100ac}, "\xe2\x82", 2}, // 20AC, side by side in a text
		{[]rune{'c', 0x1100a9}, "c\xa9", 2},
		{[]rune{'c', 0xa9}, "c", 1},
		{[]rune{0xff, 0xfe}, "\u00ff", 1}, // the characters
	} {
		matches(t, x, c, y.row, 0, []string{y.text}, upTo(0, y.places)...)
	}
	// Of a text the row is never so: Of asks its points.
	tells(t, x, c, "\xc3\xa9", "\u00e9")
	tells(t, x, c, "\xff\xfe", "\xff\xfe")
}

// tellingRules are files of rules that go together with the letters of TestAllShortRows.
var tellingRules = []string{
	"",
	example,
	markRules,
	`& z < a\u{308} < a\u{323}\u{308} < ab < ab\u{308} < ba / a\u{323}\u{308} < bab < \u{308}a`,
	`& z < ab\u{308} < b\u{308} / a < \u{323}\u{308} < \u{327}\u{308} < \u{308}\u{308}`,
	`& [ignored] << \u{308} <<< \u{323} << a & [last] < b\u{323} < b\u{308} & [first] < a\xc3 < \xc3 < A\u{300} / A`,
	`& z < a\u{300} < a\u{345} < b\u{308} < b\u{323} < b\u{323}\u{345} / a < b\u{345}`,
	`& z < \u{e9} < \u{e9}\xa9 / \xc3 < \xa9\xc3\xa9 < b\u{345} < b\u{327}\u{345} < a\u{327} < a\u{345}`,
}

// P13.3: all short rows of points and of others, by rules that speak of them.
func TestAllShortRows(t *testing.T) {
	some := []rune{'a', 'b', 0x308, 0x323, 0x327, 0x345, 0x1100c3, 0x1100a9, 'A', 0x300, 0xc0, 0xd800}
	for _, s := range tellingRules {
		x, c := both(t, s)
		rows := [][]rune{nil}
		for n := 0; n < len(rows); n++ {
			row := rows[n]
			if len(row) > 0 {
				want, wanted := c.match(row, 0)
				if w, places := x.Match(row, 0); !slices.Equal(w, want) || !slices.Equal(places, wanted) {
					t.Fatalf("%s: Match(%x, 0): %v %v, want %v %v", s, row, w, places, want, wanted)
				}
			}
			if len(row) == 4 {
				continue
			}
			for _, r := range some {
				rows = append(rows, append(row[:len(row):len(row)], r))
			}
		}
	}
}

// P13.3: asked again, and in any order, a place is told the same.
func TestMatchAgain(t *testing.T) {
	x, c := both(t, markRules+" & z < ch / cq")
	row := []rune("cha\u0327\u0323\u0308b\u0327\u0308\u0308\u00c0\U0010ffffd\u0301\u0345")
	by := chance(3)
	for range 2000 {
		from, at := by.below(len(row)), by.below(len(row))
		want, wanted := c.match(row[from:], at)
		if w, places := x.Match(row[from:], at); !slices.Equal(w, want) || !slices.Equal(places, wanted) {
			t.Fatalf("Match(%x, %d): %v %v, want %v %v", row[from:], at, w, places, want, wanted)
		}
	}
}
