package cells_test

import (
	"slices"
	"testing"

	"glossary/cells"
)

// sample is properties, and pieces of texts that mean something by them.
type sample struct {
	file   string
	pieces []string
}

// samples are all that the tests go through.
func samples() []sample {
	hangul := []string{"\u1100", "\u1101", "\u1102", "\u1103", "\u1104", "\u1161", "\u1162", "\u1163", "\u1164", "\u1165", "\u11a8", "\u11a9", "\u11aa", "\u11ab", "\u11ac",
		"\uac00", "\uac1c", "\uac38", "\uac54", "\uac70", "\uac01", "\uac02", "\uac03", "\uac04", "\uac05"}
	all := []sample{
		{file, []string{"a", "b", "\r", "\n", "\x01", "\u0300", "\u0327", "\u200d", "\u1100", "\u1161", "\u11a8", "\uac00", "\uac01", "\xff", "\xcc", "\x80"}},
		{odd, append(slices.Clone(hangul), "\r", "\n", "a", "b", "c", "d", "e", "f", "g", "h", "i", "j", "k", "l", "\xff")},
		{"", append(slices.Clone(hangul), "\r", "\n", "a", "\u0300", "\u200d", "\xff")},
	}
	for _, x := range lines {
		all = append(all, sample{x, []string{"a", "\r", "\n", "\ufffd", "\xff", "\xef", "\xbf", "\xbd", "\u1100", "\u1161", "\uac00", "\u11a8", "\uac01"}})
	}
	return all
}

// P9.1: each of the six rules alone.
func TestRules(t *testing.T) {
	p := parsed(t, file)
	for _, want := range [][]string{
		{"\r\n"},
		{"\n", "a"}, {"a", "\n"}, {"\r", "a"}, {"a", "\r"}, {"\xff", "a"}, {"a", "\xff"}, {"\x01", "a"}, {"a", "\x01"},
		{"a\u0300"}, {"a\u200d"}, {"a\u0327"},
		{"\u200da"},
		{"\u1100\u1100"}, {"\u1100\u1161"}, {"\u1100\uac00"}, {"\u1100\uac01"}, {"\u1161\u1161"}, {"\u1161\u11a8"}, {"\uac00\u1161"}, {"\uac00\u11a8"}, {"\u11a8\u11a8"}, {"\uac01\u11a8"},
		{"a", "b"}, {"a", "a"}, {"\u1100", "a"}, {"a", "\u1161"}, {"\u0300", "a"}, {"\u0327", "a"},
	} {
		holds(t, p, want...)
	}
	// A class above 0 is enough, whatever the kind; and so is the kind of a mark or a joiner. What stands ahead needs the kind of a joiner.
	q := parsed(t, odd)
	for _, want := range [][]string{
		{"ia"}, {"ib"}, {"id"}, {"ie"}, {"if"}, {"ig"}, {"i", "c"}, {"i", "h"}, {"i", "j"}, {"i", "k"}, {"i", "l"}, {"i", "i"},
		{"a", "i"}, {"b", "i"}, {"c", "i"}, {"di"}, {"e", "i"}, {"f", "i"}, {"gi"}, {"h", "i"}, {"j", "i"}, {"k", "i"}, {"l", "i"},
	} {
		holds(t, q, want...)
	}
}

// P9.1: where two rules speak of the same two units, the first one holds.
func TestFirstRule(t *testing.T) {
	p := parsed(t, odd)
	for _, want := range [][]string{
		{"\r\n"},                                                                                                                                        // 1 ahead of 2
		{"h", "f"}, {"h", "g"}, {"h", "a"}, {"i", "c"}, {"\n", "f"}, {"\r", "a"}, {"\xff", "f"}, {"\xff", "g"}, {"\xff", "a"}, {"a", "\r"}, {"i", "\n"}, // 2 ahead of 3
		{"g", "h"}, {"g", "\n"}, {"g", "\r"}, {"g", "\xff"}, {"\n", "i"}, {"\n", "\n"}, {"\n", "\r"}, // 2 ahead of 4
		{"\u1100", "\u1104"}, {"\u1104", "\u1100"}, {"\u1100", "\u1165"}, {"\u1104", "\u1161"}, {"\u1161", "\u11ac"}, {"\uac00", "\u1165"}, {"\uac00", "\u11ac"}, {"\uac01", "\u11ac"}, {"\uac05", "\u11a8"}, {"\u1104", "\uac00"}, {"\u1104", "\uac01"}, // 2 ahead of 5
		{"\u1100", "\u1162"}, {"\u1161", "\u11aa"}, // 2 ahead of 3 and 5
		{"gf"}, {"gg"}, {"ga"}, // 3 and 4
		{"\u1104\u1162"}, {"\u1104\u1163"}, {"\uac70\u11a9"}, // 3 and 5
		{"\u1102\u1165"}, {"\uac38\u11ac"}, // 4 and 5
		{"\u1102\u1162"},                                                               // 3, 4 and 5
		{"if"}, {"\u1165\u1101"}, {"\u11ac\u1162"}, {"\uac05\uac1c"}, {"\uac05\uac02"}, // 3 ahead of 6
		{"gi"}, {"\u11aa\u1104"}, {"\uac03\u1165"}, {"\uac38\uac70"}, {"\u1163i"}, // 4 ahead of 6
		{"\u1104\u1165"}, // 5 ahead of 6
	} {
		holds(t, p, want...)
	}
}

// P9.1, P9.2: all two units beside each other, by all properties; each two rules that can speak of the same two units do so among them.
func TestPairs(t *testing.T) {
	seen := map[[2]int]bool{}
	for _, x := range samples() {
		p := parsed(t, x.file)
		for _, a := range x.pieces {
			for _, b := range x.pieces {
				check(t, p, a+b)
				row := plainUnits(a + b)
				if len(row) != 2 {
					continue
				}
				rules := plainRules(p, row[0].point, row[1].point)
				for i := range rules {
					for j := range i {
						if rules[i] && rules[j] {
							seen[[2]int{j + 1, i + 1}] = true
						}
					}
				}
			}
		}
	}
	for _, two := range [][2]int{{1, 2}, {1, 3}, {1, 4}, {2, 3}, {2, 4}, {2, 5}, {3, 4}, {3, 5}, {4, 5}, {1, 6}, {2, 6}, {3, 6}, {4, 6}, {5, 6}} {
		if !seen[two] {
			t.Errorf("the test itself goes without rules %v", two)
		}
	}
}

// P9.1: 0D and 0A together, each alone, in the other order, and beside all else, whatever their kinds and classes.
func TestLineEnds(t *testing.T) {
	for _, x := range append([]string{"", file, odd}, lines[:5]...) {
		p := parsed(t, x)
		for _, want := range [][]string{
			{"\r\n"}, {"\r"}, {"\n"}, {"\n", "\r"}, {"\r", "\r"}, {"\n", "\n"},
			{"\r\n", "\r\n"}, {"\r", "\r\n", "\n"}, {"\n", "\r\n", "\r"}, {"\n", "\r", "\r", "\r\n"},
			{"\u1100", "\r\n", "\u1161"}, {"\u1100", "\n", "\u1161"}, {"\u1100", "\r", "\u1161"},
			{"\xff", "\r\n", "\xff"}, {"\xff", "\n", "\r", "\xff"}, {"\r", "\xff", "\n"},
		} {
			holds(t, p, want...)
		}
	}
	p := parsed(t, file)
	for _, want := range [][]string{
		{"a", "\r\n", "b"}, {"\r", "a", "\n"}, {"a\u0300", "\r\n", "\u0300"}, {"\r", "\u0300", "\n"}, {"\u200d", "\r\n", "\u200d"}, {"\r", "\u200d", "\n"}, {"\u200d", "\n"}, {"\u200d", "\r"},
		{"\x0c", "\r\n", "\x0b"}, {"\r", "\x01", "\n"},
	} {
		holds(t, p, want...)
	}
	for _, x := range lines[5:] { // All else is of a kind of its own there.
		holds(t, parsed(t, x), "a", "\r\n", "\n", "a", "\r", "b")
	}
}

// P9.1: control on either side; a class above 0 and Hangul count for nothing then.
func TestControls(t *testing.T) {
	p := parsed(t, file)
	holds(t, p, "a", "\x01", "b")
	holds(t, p, "\x01", "\x01", "\x1f", "\x00")
	holds(t, p, "\x01", "\u0300", "\x01")
	holds(t, p, "\x01", "\u0327\u0300", "\x01")
	holds(t, p, "\x01", "\u200da", "\x01")
	holds(t, p, "a\u200d", "\x01", "\u200d")
	holds(t, p, "\x1f", " ", "\x7f")
	q := parsed(t, odd)
	holds(t, q, "i", "c", "c", "i")
	holds(t, q, "h", "a", "c", "e", "h")
	holds(t, q, "\u1104", "\u1100", "\u1165\u11ac", "\u11a8", "\u11ac")
	holds(t, q, "\uac05", "\uac01", "\uac00", "\u1165")
}

// P9.1: marks, joiners and classes above 0 on either side, at the beginning of a text too, and in long runs.
func TestMarks(t *testing.T) {
	p := parsed(t, file)
	for _, want := range [][]string{
		{"\u0300"}, {"\u0300", "a"}, {"\u0327", "a"}, {"\u0300\u0327\u0300", "a"}, {"\u0300\u200da"}, {"\u200d\u0300", "a"},
		{"\u200d\u200d\u200da\u200d"}, {"a\u200d\u200db"}, {"a\u200d\u0300", "b"}, {"a\u0300\u200db\u0327", "c"}, {"a\u200d\u0327\u200db\u200dc", "d"},
		{"\U0001f468\u200d\U0001f469\u200d\U0001f467", "\U0001f468"},
		{"\u1100\u0300", "\u1161"}, {"\u1100\u200d\u1161"}, {"\u11a8\u200d\u1100"}, {"\uac00\u0327", "\u11a8\u0327", "\u11a8"}, {"\uac01\u200d\uac01"},
		{"\ufffd\u0300", "\ufffd\u200d\ufffd"}, {"a", "\u0370"}, {"a", "\u02ff"}, {"a\u036f"},
	} {
		holds(t, p, want...)
	}
	q := parsed(t, "class 0031 1\nclass 0032 254\nclass 0033 0\nclass 0034 1\nclass 0034 0\nkind 0034 joiner\n")
	for _, want := range [][]string{
		{"0121", "0"}, {"1", "0"}, {"2", "0"}, {"0", "3", "3"}, {"12", "3"}, {"040", "3"}, {"43", "3"}, {"404"},
	} {
		holds(t, q, want...)
	}
}

// P9.1: ill-formed bytes stand alone, beside each other, and beside marks and joiners; what lines say of U+FFFD isn't said of them.
func TestIll(t *testing.T) {
	p := parsed(t, file)
	for _, want := range [][]string{
		{"\xff", "\u0300", "\xff"}, {"\xff", "\u0327", "\xcc"}, {"\xff", "\u200da\u200d", "\xff"}, {"\xf0", "\x9f", "\x98", "a"}, {"\xe2", "\x82", "\u20ac", "\xac"},
		{"\xcc", "\u0300", "\x80"}, {"\u1100", "\xe1", "\x85", "\u1161"}, {"\xed", "\xa0", "\x80", "\u0300"}, {"\xc0", "\x80"}, {"\xf4", "\x90", "\x80", "\x80"}, {"\r", "\xff", "\n"}, {"\xef", "\xbf", "\ufffd\u0300", "\xbd"},
	} {
		holds(t, p, want...)
	}
	for _, x := range []struct {
		file string
		want []string
	}{
		{"kind FFFD mark\n", []string{"a\ufffd\ufffd", "\xff", "\ufffd", "a", "\xff"}},
		{"kind FFFD joiner\n", []string{"a\ufffda\ufffd", "\xff", "\ufffda", "\xff"}},
		{"kind FFFD control\n", []string{"a", "\ufffd", "a", "\xff", "\ufffd"}},
		{"class FFFD 9\n", []string{"a\ufffd", "a", "\xff", "\ufffd", "a"}},
		{"kind FFFD letter\nkind 0061 joiner\n", []string{"a\ufffda", "\xff", "a\ufffd", "\xff", "\xef", "\xbf"}},
		{"kind 0000..10FFFF mark\nclass 0000..10FFFF 5\n", []string{"\ufffda\ufffd", "\xff", "ab", "\xff", "\xfe"}},
		{"kind 0000..10FFFF joiner\n", []string{"\ufffda\ufffd", "\xff", "ab", "\xff", "\xfe"}},
	} {
		q := parsed(t, x.file)
		holds(t, q, x.want...)
		for b := 0x80; b < 0x100; b++ {
			ill := string([]byte{byte(b)})
			holds(t, q, ill, ill, "A", ill)
		}
	}
}

// P9.1: leads, vowels, tails, syllables with a tail and without, all of them beside all those that are no syllables, and the numbers just outside their rows.
func TestHangul(t *testing.T) {
	p := parsed(t, "")
	outside := []rune{0x10ff, 0x1113, 0x1160, 0x1176, 0x11a7, 0x11c3, 0xabff, 0xd7a4, 0xa960, 0xd7b0, 0xd7cb, 0x61}
	var parts, syllables []rune
	for r := range plainHangul() {
		if r < 0xac00 {
			parts = append(parts, r)
		} else {
			syllables = append(syllables, r)
		}
	}
	if len(parts) != 19+21+27 || len(syllables) != 11172 {
		t.Fatalf("the test itself is wrong: %d and %d", len(parts), len(syllables))
	}
	parts = append(parts, outside...)
	beside := func(a, b rune) {
		if got := cells.Edge(p, string([]rune{a, b}), len(string(a))); got != plainEdge(p, a, b) {
			t.Fatalf("between %x and %x: %v", a, b, got)
		}
	}
	for _, a := range append(slices.Clone(parts), syllables...) {
		for _, b := range parts {
			beside(a, b)
			beside(b, a)
		}
		for _, b := range []rune{0xac00, 0xac01, 0xac1b, 0xac1c, 0xac1d, 0xd788, 0xd789, 0xd7a3} {
			beside(a, b)
			beside(b, a)
		}
	}
}

// P9.1: signs of Hangul as they are written.
func TestHangulSigns(t *testing.T) {
	p := parsed(t, file)
	for _, want := range [][]string{
		{"\u1100\u1161\u11a8", "\u1100\u1161", "\u1112\u1175\u11c2"},
		{"\uac00", "\uac00", "\uac01", "\ud7a3", "\ud788"},
		{"\u1100\u1100\uac00\u1161\u1161\u11a8\u11c2", "\u1100\uac01\u11a8", "\uac01"},
		{"\u1161", "\u1100"}, {"\u1161", "\uac00"}, {"\u1161", "\uac01"}, {"\u11a8", "\u1100"}, {"\u11a8", "\u1161"}, {"\u11a8", "\uac00"}, {"\u11a8", "\uac01"}, {"\u1100", "\u11a8"},
		{"\uac00", "\u1100"}, {"\uac00", "\uac01"}, {"\uac01", "\u1100"}, {"\uac01", "\u1161"}, {"\uac01", "\uac00"}, {"\uac01", "\uac01"}, {"\uac00", "\uac00"},
		{"\uac00\u0300", "\u11a8"}, {"\u1100", "a", "\u1161"}, {"\u1113", "\u1161"}, {"\u1112\u1175", "\u1176"}, {"\uac00", "\u11a7"}, {"\uac1b\u11c2", "\u11c3"}, {"\u1100", "\uabff"}, {"\u1100", "\ud7a4"}, {"\u1100\ud7a3"},
	} {
		holds(t, p, want...)
	}
}

// P9.1: properties that don't fit Hangul's reckoning: kinds hold over it, classes are none there, whatever lines say.
func TestOddHangul(t *testing.T) {
	p := parsed(t, odd)
	for _, want := range [][]string{
		{"i\u1101"}, {"i\u1102i"}, {"i", "\u1103", "i"}, {"i", "\u1100", "i"}, {"i\u1162", "i"}, {"i", "\u1164", "i"}, {"i\u11a9", "\u1104"}, {"i\u11aai"}, {"i", "\u11ab", "i"},
		{"i\uac1c\u1165"}, {"i\uac38i"}, {"i", "\uac54\u1165"}, {"i\uac02", "\u1165"}, {"i\uac02\u11ac"}, {"i\uac03i"}, {"i", "\uac04\u11ac"},
		{"\u1104\u1103\u1164\u11ab", "\uac54\u1164\u11ab", "\uac04\u11ab"},
		{"\u1101\u1162\u11a9\uac1c\uac02", "\u1165"}, {"\u1102\u11ac\u11aa\u1104"},
		{"\u1100", "\u1161", "\u11a8", "\uac00", "\uac01", "\u11ac"},
	} {
		holds(t, p, want...)
	}
}
