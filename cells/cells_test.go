package cells_test

import (
	"iter"
	"math"
	"slices"
	"testing"

	"glossary/api"
	"glossary/cells"
	"glossary/props"
)

// The calls have the signatures that the chapter lists.
var (
	_ func(*props.Props, string) iter.Seq2[int, int] = cells.All
	_ func(*props.Props, string) iter.Seq2[int, int] = cells.Back
	_ func(*props.Props, string, int) bool           = cells.Edge
	_ func(*props.Props, string) int                 = cells.Count
)

// file is that of the chapter's examples.
const file = "kind 0300..036F mark\nclass 0327 202\nkind 200D joiner\nkind 0000..001F control\nkind 000A letter\n"

// odd are properties of which the classes, the kinds and Hangul's reckoning don't fit each other. Of each kind of Hangul one is a control, one a mark, one a joiner, and one has a line of a class.
const odd = "kind 1100 control\nkind 1101 mark\nkind 1102 joiner\nclass 1103 9\n" +
	"kind 1161 control\nkind 1162 mark\nkind 1163 joiner\nclass 1164 9\n" +
	"kind 11A8 control\nkind 11A9 mark\nkind 11AA joiner\nclass 11AB 9\n" +
	"kind AC00 control\nkind AC1C mark\nkind AC38 joiner\nclass AC54 9\n" +
	"kind AC01 control\nkind AC02 mark\nkind AC03 joiner\nclass AC04 9\n" +
	"kind 000A joiner\nkind 000D mark\nclass 000D 7\n" +
	"class 0061 1\nclass 0062 254\nkind 0062 digit\nclass 0063 5\nkind 0063 control\nclass 0064 6\nkind 0064 joiner\nclass 0065 7\nkind 0065 mark\nkind 0066 mark\nkind 0067 joiner\nkind 0068 control\n" +
	"kind 0069 letter\nkind 006A digit\nkind 006B space\nkind 006C middle\n" +
	"kind 20000..2FFFF mark\nclass 30000..3FFFF 7\nkind 40000..4FFFF joiner\nkind 50000..5FFFF control\n"

// lines are properties that speak of line ends and of what stands for what is ill-formed, each in another way.
var lines = []string{
	"kind 000A mark\nkind 000D control\nkind FFFD mark\n",
	"kind 000A letter\nkind 000D joiner\nkind FFFD joiner\n",
	"kind 000A control\nkind 000D letter\nkind FFFD control\n",
	"class 000A 1\nclass 000D 1\nclass FFFD 1\n",
	"class 0000..10FFFF 3\n",
	"kind 0000..10FFFF joiner\n",
	"kind 0000..10FFFF mark\n",
	"kind 0000..10FFFF control\n",
}

// parsed are the properties of a file that is right.
func parsed(t *testing.T, s string) *props.Props {
	t.Helper()
	p, e := props.Parse(s)
	if e != nil {
		t.Fatalf("Parse(%.200q): %v", s, e)
	}
	return p
}

// check holds all that is told of a text against the second way.
func check(t *testing.T, p *props.Props, s string) {
	t.Helper()
	want := plainCells(p, s)
	if got := listed(cells.All(p, s)); !slices.Equal(got, want) {
		t.Fatalf("All of %+q: %v, want %v", s, got, want)
	}
	if got := listed(cells.Back(p, s)); !slices.Equal(got, reversed(want)) {
		t.Fatalf("Back of %+q: %v, want %v", s, got, reversed(want))
	}
	if got := cells.Count(p, s); got != len(want) {
		t.Fatalf("Count of %+q: %d, want %d", s, got, len(want))
	}
	edges := plainEdges(p, s)
	for at := -5; at <= len(s)+5; at++ {
		if got := cells.Edge(p, s, at); got != slices.Contains(edges, at) {
			t.Fatalf("Edge of %+q at %d: %v", s, at, got)
		}
	}
}

// holds holds what is told of a text against its cells, one behind the other.
func holds(t *testing.T, p *props.Props, want ...string) {
	t.Helper()
	s := ""
	for _, cell := range want {
		s += cell
	}
	var got []string
	for from, to := range cells.All(p, s) {
		got = append(got, s[from:to])
	}
	if !slices.Equal(got, want) {
		t.Errorf("%+q: %+q, want %+q", s, got, want)
	}
	check(t, p, s)
}

// P9.1: the chapter's examples.
func TestCells(t *testing.T) {
	p := parsed(t, file)
	for _, want := range [][]string{
		{"a\u0300\u0327", "b"},
		{"\u0300\u0300", "a"},
		{"\r\n", "\n", "\u0300", "\r", "a"},
		{"a\u200db\u200d"}, {"\u200da"},
		{"a", "\xff", "\u0300", "\xff", "\xfe"},
		{"\x01", "\u0300"}, {"a\u200d", "\x01"},
		{"\u1100\u1100\u1161\u11a8\u11a8", "\uac00\u11a8", "\uac01", "\u1161"},
	} {
		holds(t, p, want...)
	}
	holds(t, parsed(t, "kind 0301 mark\nclass 0301 230\n"), "e\u0301", "\xff", "a") // the document's fourth example
	holds(t, parsed(t, ""), "e", "\u0301", "\xff", "a")                             // and its third
}

// P9.2: the chapter's example.
func TestEdge(t *testing.T) {
	p := parsed(t, file)
	for at, want := range map[int]bool{0: true, 1: false, 2: false, 3: true, 4: true, 5: false, -1: false} {
		if got := cells.Edge(p, "a\u0300b", at); got != want {
			t.Errorf("Edge at %d: %v", at, got)
		}
	}
}

// P9.1, P9.2: the empty text has no cell and no edge.
func TestEmpty(t *testing.T) {
	for _, s := range append([]string{"", file, odd}, lines...) {
		p := parsed(t, s)
		if all, back := listed(cells.All(p, "")), listed(cells.Back(p, "")); len(all) > 0 || len(back) > 0 || cells.Count(p, "") != 0 {
			t.Errorf("cells of nothing: %v %v", all, back)
		}
		for _, at := range []int{0, 1, -1, math.MinInt, math.MaxInt} {
			if cells.Edge(p, "", at) {
				t.Errorf("nothing has an edge at %d", at)
			}
		}
	}
}

// P9.1, P9.2: a text of one unit is one cell, whatever the unit is.
func TestOneUnit(t *testing.T) {
	for _, x := range append([]string{"", file, odd}, lines...) {
		p := parsed(t, x)
		for _, s := range []string{"a", "e", "g", "h", "\r", "\n", "\x00", "\u0300", "\u200d", "\u1100", "\u1161", "\u11a8", "\uac00", "\uac01", "\ufffd", "\U00020000", "\x80", "\xc3", "\xff"} {
			holds(t, p, s)
		}
		for b := range 256 {
			holds(t, p, string([]byte{byte(b)}))
		}
	}
}

// P9.2: Edge at each byte, within units of each width, and outside.
func TestEdgeAtEachByte(t *testing.T) {
	p := parsed(t, file)
	for _, x := range []struct {
		s     string
		edges []int
	}{
		{"a\u00e9\u20ac\U0001f600", []int{0, 1, 3, 6, 10}},
		{"\U0001f600\u20ac\u00e9a", []int{0, 4, 7, 9, 10}},
		{"\U0001f600\u0300\u20ac\u0300\u00e9\u0300a\u0300", []int{0, 6, 11, 15, 18}},
		{"\r\n\r\n", []int{0, 2, 4}},
		{"\xf0\x9f\x98\U0001f600\x80", []int{0, 1, 2, 3, 7, 8}},
		{"\xe2\x82\u20ac\x82\xac", []int{0, 1, 2, 5, 6, 7}},
		{"\xc3\u00e9\xa9", []int{0, 1, 3, 4}},
		{"\xed\xa0\x80\xed\x9f\xbf", []int{0, 1, 2, 3, 6}},
		{"\xf4\x90\x80\x80\xf4\x8f\xbf\xbf", []int{0, 1, 2, 3, 4, 8}},
	} {
		for at := -9; at <= len(x.s)+9; at++ {
			if got := cells.Edge(p, x.s, at); got != slices.Contains(x.edges, at) {
				t.Errorf("Edge of %+q at %d: %v", x.s, at, got)
			}
		}
		for _, at := range []int{math.MinInt, math.MinInt + 1, math.MinInt32, math.MaxInt32, 1 << 32, math.MaxInt - 1, math.MaxInt} {
			if cells.Edge(p, x.s, at) {
				t.Errorf("Edge of %+q at %d", x.s, at)
			}
		}
		check(t, p, x.s)
	}
}

// P9.1, P9.2 go by the properties that are handed in, at each call.
func TestOtherProps(t *testing.T) {
	none, some, all := parsed(t, ""), parsed(t, file), parsed(t, "kind 0000..10FFFF control\n")
	for range 2 {
		holds(t, none, "a", "\u0300", "\u0327", "\u200d", "b", "\u1100\u1161")
		holds(t, some, "a\u0300\u0327\u200db", "\u1100\u1161")
		holds(t, all, "a", "\u0300", "\u0327", "\u200d", "b", "\u1100", "\u1161")
	}
}

// left is what an iterator hands out till it is left behind n steps.
func left(all iter.Seq2[int, int], n int) []api.Range {
	var l []api.Range
	if n == 0 {
		return nil
	}
	for from, to := range all {
		l = append(l, api.Range{From: from, To: to})
		if len(l) == n {
			break
		}
	}
	return l
}

// P9.1, R5: All and Back left early, gone over again, and within themselves and each other.
func TestIterators(t *testing.T) {
	for _, x := range samples() {
		p, c := parsed(t, x.file), chance(3)
		for n := range 60 {
			s := c.text(x.pieces, n%14)
			want := plainCells(p, s)
			all, back := cells.All(p, s), cells.Back(p, s)
			for _, y := range []struct {
				seq, other       iter.Seq2[int, int]
				want, otherWants []api.Range
			}{{all, back, want, reversed(want)}, {back, all, reversed(want), want}} {
				for n := range len(want) + 2 {
					if got := left(y.seq, n); !slices.Equal(got, y.want[:min(n, len(want))]) {
						t.Fatalf("%+q left behind %d: %v of %v", s, n, got, y.want)
					}
				}
				var outer []api.Range
				for from, to := range y.seq {
					outer = append(outer, api.Range{From: from, To: to})
					n := len(outer)
					if !slices.Equal(left(y.seq, n), y.want[:n]) || !slices.Equal(left(y.other, n), y.otherWants[:n]) {
						t.Fatalf("%+q left within itself behind %d", s, n)
					}
					if !slices.Equal(listed(y.seq), y.want) || !slices.Equal(listed(y.other), y.otherWants) || cells.Count(p, s) != len(want) {
						t.Fatalf("%+q gone over within itself behind %d", s, n)
					}
				}
				if !slices.Equal(outer, y.want) {
					t.Fatalf("%+q gone over again: %v of %v", s, outer, y.want)
				}
			}
		}
	}
}
