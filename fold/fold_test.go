package fold_test

import (
	"strconv"
	"strings"
	"testing"

	"glossary/api"
	"glossary/fold"
	"glossary/props"
)

// The calls have the signatures that the chapter lists.
var (
	_ func(*props.Props, string) (string, []api.Spot) = fold.Fold
	_ func(*props.Props, string, string) bool         = fold.Same
)

// file is chapter 6's file F, with three lines more.
const file = "class 0300..0304 230\nclass 0327 202 # below\nclass 0302 0\nkind 0041..005A letter\nfold 0041 0061\ndecomp 00C0 0041 0300\ndecomp 1EA6 00C0 0301\ndecomp 00C5 0041 0300\n" +
	"fold 00C0 00E0\nfold 0053 0073 0073\nfold 0061 0300 0041\n"

// people is some of what is in use: letters of Latin script and of Greek, with their marks and folds.
const people = "class 0300..0314 230\nclass 0323 220\nclass 0327 202\nclass 0345 240\n" +
	"decomp 00C5 0041 030A\ndecomp 212B 00C5\ndecomp 212A 004B\ndecomp 0130 0049 0307\ndecomp 1E69 1E63 0307\ndecomp 1E63 0073 0323\ndecomp 1E9B 017F 0307\n" +
	"decomp 0390 03CA 0301\ndecomp 03CA 03B9 0308\ndecomp 1F88 1F08 0345\ndecomp 1F08 0391 0313\ndecomp 01F0 006A 030C\n" +
	"fold 0041 0061\nfold 0049 0069\nfold 004B 006B\nfold 00DF 0073 0073\nfold 017F 0073\nfold 0149 02BC 006E\nfold 0345 03B9\nfold 0391 03B1\nfold 03A3 03C3\nfold 03C2 03C3\nfold FB03 0066 0066 0069\n"

// odd are properties of which the classes, the decompositions and the folds don't fit each other: A to E are starters, P to T marks, and those from 60 to 64 decompose.
const odd = "class 0050 10\nclass 0051 20\nclass 0052 20\nclass 0053 30\nclass 0054 254\n" +
	"class 0060 25\ndecomp 0060 0041 0050\nfold 0060 0045\n" + // a mark that begins with a starter; its fold is never asked for
	"decomp 0061 0051 0050\n" + // a starter that is marks alone, in the wrong order
	"decomp 0062 0053 0042 0050\n" + // a mark, a starter, a mark
	"class 0063 5\ndecomp 0063 0042 0043\n" +
	"decomp 0064 0062 0061\n" +
	"fold 0041 0050\n" + // a starter becomes a mark
	"fold 0042 0053 0043 0050\n" + // a mark, a starter, a mark
	"fold 0043 0060\n" + // what decomposes to a starter that has a fold
	"fold 0044 0064 AC01\n" +
	"fold 0050 0042\n" + // a mark becomes a starter
	"fold 0051 0054 0050\n" + // marks in the wrong order
	"fold 0053 0051\n" // a mark of another class, that has a fold

// oddPieces are the points of which odd speaks, and some others.
var oddPieces = []string{"A", "B", "C", "D", "E", "P", "Q", "R", "S", "T", "`", "a", "b", "c", "d", "\xff", "\xea\xb0", "\x81", "\uac01", "\u1100"}

// parsed are the properties of a file that is right.
func parsed(t *testing.T, s string) *props.Props {
	t.Helper()
	p, e := props.Parse(s)
	if e != nil {
		t.Fatalf("Parse(%.200q): %v", s, e)
	}
	return p
}

// told are spots as the tests write them: At:From-To.
func told(l []api.Spot) string {
	var all []string
	for _, x := range l {
		all = append(all, strconv.Itoa(x.At)+":"+strconv.Itoa(x.From)+"-"+strconv.Itoa(x.To))
	}
	return strings.Join(all, " ")
}

// folds are what a text is folded to, and the spots.
type folds struct{ s, text, spots string }

// holds holds what is told of texts against what is written, and against the second way.
func holds(t *testing.T, p *props.Props, all []folds) {
	t.Helper()
	for _, x := range all {
		text, spots := fold.Fold(p, x.s)
		if text != x.text || told(spots) != x.spots {
			t.Errorf("Fold(%q): %q %s, want %q %s", x.s, text, told(spots), x.text, x.spots)
		}
		check(t, p, x.s)
	}
}

// P8.1: the chapter's examples.
func TestFold(t *testing.T) {
	holds(t, parsed(t, file), []folds{
		{"ABS", "aBss", "0:0-1 1:1-2 2:2-3 3:2-3"},
		{"\u00c0", "a\u0300", "0:0-2 1:0-2"},
		{"A\u0301\u0327", "a\u0327\u0301", "0:0-1 1:3-5 3:1-3"},
		{"B\u0327a", "B\u0327\u0300A", "0:0-1 1:1-3 3:3-4 5:3-4"},
		{"A\xff", "a\xff", "0:0-1 1:1-2"},
		{"", "", ""},
	})
}

// P8.1, P8.3: the empty text has no units, whatever the properties.
func TestEmpty(t *testing.T) {
	for _, s := range []string{"", file, people, odd} {
		if text, spots := fold.Fold(parsed(t, s), ""); text != "" || len(spots) != 0 {
			t.Errorf("Fold of nothing: %q %s", text, told(spots))
		}
	}
}

// P8.1, P8.3: units of one to four bytes, which become units as wide, wider, and less wide.
func TestWidths(t *testing.T) {
	holds(t, parsed(t, ""), []folds{
		{"a", "a", "0:0-1"}, {"\u00e9", "\u00e9", "0:0-2"}, {"\u20ac", "\u20ac", "0:0-3"}, {"\U0001f600", "\U0001f600", "0:0-4"},
		{"a\u00e9\u20ac\U0001f600a", "a\u00e9\u20ac\U0001f600a", "0:0-1 1:1-3 3:3-6 6:6-10 10:10-11"},
		{"\x00\x7f\u0080\u07ff\u0800\uffff\U00010000\U0010ffff", "\x00\x7f\u0080\u07ff\u0800\uffff\U00010000\U0010ffff", "0:0-1 1:1-2 2:2-4 4:4-6 6:6-9 9:9-12 12:12-16 16:16-20"},
	})
	holds(t, parsed(t, "fold 0061 1F600\nfold 00E9 20AC\nfold 20AC 00E9\nfold 1F600 0061\nfold 0062 0062 00E9 20AC 1F600\n"), []folds{
		{"a\u00e9\u20ac\U0001f600a", "\U0001f600\u20ac\u00e9a\U0001f600", "0:0-1 4:1-3 7:3-6 9:6-10 10:10-11"},
		{"bb", "b\u00e9\u20ac\U0001f600b\u00e9\u20ac\U0001f600", "0:0-1 1:0-1 3:0-1 6:0-1 10:1-2 11:1-2 13:1-2 16:1-2"},
	})
	holds(t, parsed(t, "decomp 1F600 0061 1F601\ndecomp 0062 00E9 20AC\n"), []folds{
		{"b\U0001f600b", "\u00e9\u20aca\U0001f601\u00e9\u20ac", "0:0-1 2:0-1 5:1-5 6:1-5 10:5-6 12:5-6"},
	})
}

// P8.6: ill-formed bytes stay as they are, each with a spot of its own, wherever they stand; a U+FFFD that stands in the text is none.
func TestIll(t *testing.T) {
	holds(t, parsed(t, file), []folds{
		{"\xff", "\xff", "0:0-1"},
		{"\x80\u0301\u0327", "\x80\u0327\u0301", "0:0-1 1:3-5 3:1-3"},
		{"\u0301\xff\u0327", "\u0301\xff\u0327", "0:0-2 2:2-3 3:3-5"}, // it parts marks
		{"A\u0301\xcc\u0327\u0300\xcc", "a\u0301\xcc\u0327\u0300\xcc", "0:0-1 1:1-3 3:3-4 4:4-6 6:6-8 8:8-9"},
		{"\xe2\x82A\xff\xfe", "\xe2\x82a\xff\xfe", "0:0-1 1:1-2 2:2-3 3:3-4 4:4-5"},
		{"\xed\xa0\x80S", "\xed\xa0\x80ss", "0:0-1 1:1-2 2:2-3 3:3-4 4:3-4"},
		{"\xf4\x90\x80\x80", "\xf4\x90\x80\x80", "0:0-1 1:1-2 2:2-3 3:3-4"},
		{"\xc3S\xc3", "\xc3ss\xc3", "0:0-1 1:1-2 2:1-2 3:2-3"},
		{"\xf0\x9f\x98a\x80", "\xf0\x9f\x98\u0300A\x80", "0:0-1 1:1-2 2:2-3 3:3-4 5:3-4 6:4-5"},
		{"\ufffd\xef\xbf\ufffd", "\ufffd\xef\xbf\ufffd", "0:0-3 3:3-4 4:4-5 5:5-8"},
	})
	// Its lines speak of all characters, but of no ill-formed byte.
	p := parsed(t, "class 0000..10FFFF 7\nfold FFFD 0061 0062\n")
	for b := 0x80; b < 0x100; b++ {
		s := string([]byte{byte(b)})
		holds(t, p, []folds{
			{s, s, "0:0-1"},
			{s + s + "\ufffd" + s, s + s + "ab" + s, "0:0-1 1:1-2 2:2-5 3:2-5 4:5-6"},
		})
	}
}

// P8.1: all points of a decomposition have the bytes of their unit; their own folds count, not that of the point that decomposes.
func TestDecompositions(t *testing.T) {
	holds(t, parsed(t, file), []folds{
		{"\u1ea6", "a\u0300\u0301", "0:0-3 1:0-3 3:0-3"},
		{"x\u00c0y", "xa\u0300y", "0:0-1 1:1-3 2:1-3 4:3-4"},
		{"\u00c5\u0327", "a\u0327\u0300", "0:0-2 1:2-4 3:0-2"}, // a mark goes between the points of one unit
		{"\u1ea6\u0327", "a\u0327\u0300\u0301", "0:0-3 1:3-5 3:0-3 5:0-3"},
		{"\u1ea6\u0302\u0327", "a\u0300\u0301\u0302\u0327", "0:0-3 1:0-3 3:0-3 5:3-5 7:5-7"}, // 302 has the class 0
	})
	p := parsed(t, "decomp 0058 0059 005A 0041 0300 0057 0056 0055 0054\nfold 0041 0061\nfold 0054 0058\nfold 0058 0031\n")
	holds(t, p, []folds{
		// T folds to X, which decomposes, and whose fold is never asked for; the A that comes of it isn't folded.
		{"X", "YZa\u0300WVUYZA\u0300WVUT", "0:0-1 1:0-1 2:0-1 3:0-1 5:0-1 6:0-1 7:0-1 8:0-1 9:0-1 10:0-1 11:0-1 13:0-1 14:0-1 15:0-1 16:0-1"},
	})
}

// P8.1: folds of one and of several points; of what comes out of a decomposition; to what decomposes; to what has a fold.
func TestFolds(t *testing.T) {
	p := parsed(t, "fold 0041 0042\nfold 0042 0043\nfold 0043 0041 0042 0043\nfold 0044 0064 0064 0064 0064 0064 0064 0064 0064\n"+
		"decomp 0061 0041 0042\nfold 0061 0046\nfold 0045 0061\nfold 0046 0046\ndecomp 0062 0061 0043\nfold 0047 0062\n")
	holds(t, p, []folds{
		{"ABC", "BCABC", "0:0-1 1:1-2 2:2-3 3:2-3 4:2-3"}, // none is folded again
		{"D", "dddddddd", "0:0-1 1:0-1 2:0-1 3:0-1 4:0-1 5:0-1 6:0-1 7:0-1"},
		{"a", "BC", "0:0-1 1:0-1"}, // decomposed, then folded
		{"E", "AB", "0:0-1 1:0-1"}, // folded, then decomposed, and not folded again
		{"F", "F", "0:0-1"},
		{"G", "ABC", "0:0-1 1:0-1 2:0-1"}, // decomposed to the end
		{"b", "BCABC", "0:0-1 1:0-1 2:0-1 3:0-1 4:0-1"},
		{"GEa", "ABCABBC", "0:0-1 1:0-1 2:0-1 3:1-2 4:1-2 5:2-3 6:2-3"},
	})
}

// P8.1: letters in use.
func TestPeople(t *testing.T) {
	holds(t, parsed(t, people), []folds{
		{"\u212b\u212a", "a\u030ak", "0:0-3 1:0-3 3:3-6"},
		{"\u0130\u0323", "i\u0323\u0307", "0:0-2 1:2-4 3:0-2"},
		{"Stra\u00dfe", "Strasse", "0:0-1 1:1-2 2:2-3 3:3-4 4:4-6 5:4-6 6:6-7"},
		{"\u1e9b\u0323", "s\u0323\u0307", "0:0-3 1:3-5 3:0-3"},
		{"\u0149\u01f0", "\u02bcnj\u030c", "0:0-2 2:0-2 3:2-4 4:2-4"},
		{"\u1f88\u0301", "\u03b1\u0313\u0301\u03b9", "0:0-3 2:0-3 4:3-5 6:0-3"}, // 345 goes behind 301, and then becomes a letter
		{"\u03a3\u03c2\u0390", "\u03c3\u03c3\u03b9\u0308\u0301", "0:0-2 2:2-4 4:4-6 6:4-6 8:4-6"},
		{"o\ufb03ce", "office", "0:0-1 1:1-4 2:1-4 3:1-4 4:4-5 5:5-6"},
	})
}

// P8.1: marks change places with their bytes by the first spreading, by the second, and by both; those of one class stay as they stood.
func TestMarks(t *testing.T) {
	p := parsed(t, "class 0031 1\nclass 0032 2\nclass 0033 3\nclass 0034 4\nclass 0061..0063 2\nfold 0033 0032 0031\nfold 0034 0031\nfold 0063 0061\nfold 0078 0032\n")
	holds(t, p, []folds{
		{"021", "012", "0:0-1 1:2-3 2:1-2"},         // by the first
		{"01x1", "0112", "0:0-1 1:1-2 2:3-4 3:2-3"}, // x becomes a mark: by the second
		{"0421", "0112", "0:0-1 1:3-4 2:1-2 3:2-3"}, // 1 2 4 by the first; 4 becomes a 1 that goes ahead of 2, but not of the other 1
		{"03", "012", "0:0-1 1:1-2 2:1-2"},          // within one fold
		{"031", "0112", "0:0-1 1:2-3 2:1-2 3:1-2"},  // 1 3 by the first
		{"03x", "0122", "0:0-1 1:1-2 2:1-2 3:2-3"},  // a fold of marks beside another
		{"32", "122", "0:0-1 1:1-2 2:0-1"},          // at the beginning
		{"210", "120", "0:1-2 1:0-1 2:2-3"},         // with nothing ahead
		{"0ab2ba", "0ab2ba", "0:0-1 1:1-2 2:2-3 3:3-4 4:4-5 5:5-6"},
		{"0ba12ab", "01ba2ab", "0:0-1 1:3-4 2:1-2 3:2-3 4:4-5 5:5-6 6:6-7"},
		{"0bcxac4", "01ba2aa", "0:0-1 1:6-7 2:1-2 3:2-3 4:3-4 5:4-5 6:5-6"}, // as they stood when they were folded
		{"210x43", "1201122", "0:1-2 1:0-1 2:2-3 3:5-6 4:4-5 5:3-4 6:5-6"},
	})
}

// P8.1: folds that begin with a mark, or are marks alone; and marks that become starters, which they are by the second spreading alone.
func TestFoldsOfMarks(t *testing.T) {
	holds(t, parsed(t, file), []folds{
		{"\u0301a", "\u0301\u0300A", "0:0-2 2:2-3 4:2-3"},
		{"a\u0327", "\u0300A\u0327", "0:0-1 2:0-1 3:1-3"},
		{"aa", "\u0300A\u0300A", "0:0-1 2:0-1 3:1-2 5:1-2"},
	})
	holds(t, parsed(t, "class 0031 1\nclass 0032 2\nclass 0033 3\nfold 006D 0033 0031\nfold 006E 0031\nfold 0032 0030\nfold 006F 0032 006F\n"), []folds{
		{"m", "13", "0:0-1 1:0-1"},
		{"0n", "01", "0:0-1 1:1-2"},
		{"03n", "013", "0:0-1 1:2-3 2:1-2"},
		{"nm", "113", "0:0-1 1:1-2 2:1-2"},
		{"m3n1", "11133", "0:0-1 1:2-3 2:3-4 3:0-1 4:1-2"},
		{"3o", "23o", "0:1-2 1:0-1 2:1-2"},
		{"n\xffm", "1\xff13", "0:0-1 1:1-2 2:2-3 3:2-3"},
		{"021", "010", "0:0-1 1:2-3 2:1-2"},
		{"0321", "0103", "0:0-1 1:3-4 2:2-3 3:1-2"},
		{"02n", "001", "0:0-1 1:1-2 2:2-3"},
	})
}

// P8.1: Hangul's syllables decompose ahead of their folds, parts have folds of their own, and folds lead to syllables; nothing is composed.
func TestHangul(t *testing.T) {
	p := parsed(t, "fold 1100 1101\nfold AC01 0043\nfold 11A8 0062 0063\nfold 0041 AC01\nfold 0042 1161\nclass 0300 5\nclass 1100..11FF 9\n")
	holds(t, p, []folds{
		{"\uac01", "\u1101\u1161bc", "0:0-3 3:0-3 6:0-3 7:0-3"},
		{"\uac00\u11a8", "\u1101\u1161bc", "0:0-3 3:0-3 6:3-6 7:3-6"},
		{"A", "\u1100\u1161\u11a8", "0:0-1 3:0-1 6:0-1"},
		{"\u1100B", "\u1101\u1161", "0:0-3 3:3-4"},
		{"\ud7a3\u0300", "\u1112\u1175\u11c2\u0300", "0:0-3 3:0-3 6:0-3 9:3-5"},
		{"\uabff\ud7a4", "\uabff\ud7a4", "0:0-3 3:3-6"},
	})
	for syllable := rune(0xac00); syllable <= 0xd7a3; syllable++ {
		check(t, p, string([]rune{0x300, syllable}))
	}
}

// P8.2: texts that are the same, have two forms, differ in their case, or in one byte.
func TestSame(t *testing.T) {
	p, q := parsed(t, file), parsed(t, people)
	for _, x := range []struct {
		p    *props.Props
		a, b string
		want bool
	}{
		{p, "\u00c0", "A\u0300", true}, {p, "A", "a", false},
		{p, "", "", true}, {p, "", "A", false}, {p, "S", "ss", true}, {p, "S", "s", false}, {p, "Ss", "sS", true},
		{p, "\xff", "\xff", true}, {p, "\xff", "\xfe", false}, {p, "\xff", "\ufffd", false}, {p, "\xc3", "\xc3\xa9", false},
		{p, "A\u0300\u0327", "A\u0327\u0300", true}, {p, "A\u0300\u0301", "A\u0301\u0300", false}, {p, "\u00c5", "\u00c0", true},
		{p, "\u00e0", "\u00c0", false}, // C0 decomposes
		{q, "AIK", "aik", true}, {q, "AIK", "aiK\u0301", false}, {q, "\u212b", "a\u030a", true}, {q, "A", "A\x00", false},
		{q, "\u03a3\u0391\u03a3", "\u03c3\u0391\u03c2", true}, {q, "\u00df\u017f", "sss", true}, {q, "\u1f88", "\u03b1\u0313\u03b9", true},
		{q, "A", "B", false}, {q, "aB", "AB", true}, {q, "ab", "aB", false}, // B has no fold
	} {
		if got := fold.Same(x.p, x.a, x.b); got != x.want {
			t.Errorf("Same(%q, %q): %v", x.a, x.b, got)
		}
		if got := fold.Same(x.p, x.b, x.a); got != x.want {
			t.Errorf("Same(%q, %q): %v", x.b, x.a, got)
		}
	}
}

// P8.1, P8.2, P8.4 go by the properties that are handed in, at each call.
func TestOtherProps(t *testing.T) {
	none, some := parsed(t, ""), parsed(t, file)
	for range 2 {
		holds(t, none, []folds{{"A\u00c0S", "A\u00c0S", "0:0-1 1:1-3 3:3-4"}})
		holds(t, some, []folds{{"A\u00c0S", "aa\u0300ss", "0:0-1 1:1-3 2:1-3 4:3-4 5:3-4"}})
		if fold.Same(none, "S", "ss") || !fold.Same(some, "S", "ss") {
			t.Error("Same goes by other properties")
		}
	}
}
