package normal_test

import (
	"math"
	"slices"
	"testing"

	"glossary/normal"
	"glossary/points"
	"glossary/props"
)

// The calls have the signatures that the chapter lists.
var (
	_ func(*props.Props, []rune) []rune       = normal.Decompose
	_ func(*props.Props, []rune) []rune       = normal.Compose
	_ func(*props.Props, string, bool) string = normal.Text
	_ func(*props.Props, string, bool) bool   = normal.Is
	_ func(*props.Props, []rune, int) bool    = normal.Cut
	_ func(*props.Props) *normal.Stream       = normal.New
	_ func(*normal.Stream, []rune) []rune     = (*normal.Stream).Write
	_ func(*normal.Stream) []rune             = (*normal.Stream).End
)

// file is chapter 6's file F.
const file = "class 0300..0304 230\nclass 0327 202 # below\nclass 0302 0\nkind 0041..005A letter\nfold 0041 0061\ndecomp 00C0 0041 0300\ndecomp 1EA6 00C0 0301\ndecomp 00C5 0041 0300\n"

// people is some of what is in use: letters of Latin script and of Greek, with their marks.
const people = "class 0300..0314 230\nclass 031B 216\nclass 0323 220\nclass 0327..0328 202\nclass 0342 230\nclass 0345 240\n" +
	"decomp 00C5 0041 030A\ndecomp 212B 00C5\ndecomp 1E0A 0044 0307\ndecomp 1E0C 0044 0323\ndecomp 1E69 1E63 0307\ndecomp 1E63 0073 0323\ndecomp 1E61 0073 0307\n" +
	"decomp 00F4 006F 0302\ndecomp 01A1 006F 031B\ndecomp 1ECD 006F 0323\ndecomp 1EE3 01A1 0323\ndecomp 1ED9 1ECD 0302\n" +
	"decomp 1F00 03B1 0313\ndecomp 1F04 1F00 0301\ndecomp 1F84 1F04 0345\ndecomp 03AC 03B1 0301\ndecomp 0344 0308 0301\ndecomp 2126 03A9\n"

// odd are properties of which the classes and the decompositions don't fit each other: 41 to 45 are starters, 50 to 54 marks; of 60 to 6F the class is not that of the decomposition's points.
const odd = "class 0050 10\nclass 0051 20\nclass 0052 20\nclass 0053 30\nclass 0054 254\n" +
	"class 0060 25\ndecomp 0060 0041 0050\n" + // a mark that begins with a starter; what 41 and 50 make gets a class
	"decomp 0061 0051 0050\n" + // a starter that is marks alone, in the wrong order
	"decomp 0062 0053 0042 0050\n" + // a mark, a starter, a mark
	"class 0063 5\ndecomp 0063 0042 0043\n" + // of two starters; what they make gets a class
	"decomp 0064 0062 0061\n" +
	"class 0065 1\ndecomp 0065 0054\n" + // a mark of another class
	"decomp 0066 0042 0051\ndecomp 0067 0066 0053\ndecomp 0068 0067 0042\ndecomp 0069 0068 0054\n" + // a starter that is composed again and again, also with a starter
	"decomp 006A 0060 0051\ndecomp 006B 0060 0042\n" + // what begins with 60 is never made: its class is 25
	"decomp 006C 0050 0051\n" + // nor what begins with a mark
	"decomp 006D 0043 0054\ndecomp 006E 0043 0054\ndecomp 006F 0041\n"

// oddPoints are those of which odd speaks, and some others.
var oddPoints = []rune{0x41, 0x42, 0x43, 0x44, 0x50, 0x51, 0x52, 0x53, 0x54, 0x60, 0x61, 0x62, 0x63, 0x64, 0x65, 0x66, 0x67, 0x68, 0x69, 0x6a, 0x6b, 0x6c, 0x6d, 0x6e, 0x6f, 0x1100ff, -1, 0xac00, 0x1161, 0x11a8}

// beside are numbers that are no characters; the ill-formed bytes are points.
var beside = []rune{-1, math.MinInt32, 0xd800, 0xdfff, 0x110000, 0x11007f, 0x110080, 0x1100cc, 0x1100ff, 0x110100, math.MaxInt32}

// parsed are the properties of a file that is right.
func parsed(t *testing.T, s string) *props.Props {
	t.Helper()
	p, e := props.Parse(s)
	if e != nil {
		t.Fatalf("Parse(%.200q): %v", s, e)
	}
	return p
}

// check holds both rows of a row, and what follows from them, against the second way.
func check(t *testing.T, p *props.Props, l []rune) {
	t.Helper()
	down, up := normal.Decompose(p, l), normal.Compose(p, l)
	if want := plainDecompose(p, l); !slices.Equal(down, want) {
		t.Fatalf("Decompose(%x): %x, want %x", l, down, want)
	}
	if want := plainCompose(p, l); !slices.Equal(up, want) {
		t.Fatalf("Compose(%x): %x, want %x", l, up, want)
	}
	if x, y := normal.Decompose(p, down), normal.Decompose(p, up); !slices.Equal(x, down) || !slices.Equal(y, down) {
		t.Fatalf("of %x: %x, decomposed again %x, and from %x %x", l, down, x, up, y)
	}
	if x, y := normal.Compose(p, down), normal.Compose(p, up); !slices.Equal(x, up) || !slices.Equal(y, up) {
		t.Fatalf("of %x: %x, composed again %x, and from %x %x", l, up, y, down, x)
	}
	last := 0
	for _, r := range down {
		class := p.Class(r)
		if len(p.Decomp(r)) > 0 || class > 0 && class < last {
			t.Fatalf("Decompose(%x): %x, at %x", l, down, r)
		}
		last = class
	}
}

// P7.1: the chapter's examples, and the empty row.
func TestRows(t *testing.T) {
	p := parsed(t, file)
	for _, x := range []struct{ l, down, up []rune }{
		{nil, nil, nil},
		{[]rune{}, nil, nil},
		{[]rune{0x42}, []rune{0x42}, []rune{0x42}},
		{[]rune{0x1ea6}, []rune{0x41, 0x300, 0x301}, []rune{0x1ea6}},
		{[]rune{0xc0, 0x327}, []rune{0x41, 0x327, 0x300}, []rune{0xc0, 0x327}},
		{[]rune{0x301, 0x327, 0x300}, []rune{0x327, 0x301, 0x300}, []rune{0x327, 0x301, 0x300}},
		{[]rune{0xac01}, []rune{0x1100, 0x1161, 0x11a8}, []rune{0xac01}},
		{[]rune{0x41, 0x300, 0x301}, []rune{0x41, 0x300, 0x301}, []rune{0x1ea6}},
		{[]rune{0x41, 0x301, 0x300}, []rune{0x41, 0x301, 0x300}, []rune{0x41, 0x301, 0x300}},
		{[]rune{0x41, 0x327, 0x300}, []rune{0x41, 0x327, 0x300}, []rune{0xc0, 0x327}},
		{[]rune{0x300, 0x41}, []rune{0x300, 0x41}, []rune{0x300, 0x41}},
		{[]rune{0x41, 0x302, 0x300}, []rune{0x41, 0x302, 0x300}, []rune{0x41, 0x302, 0x300}},
		{[]rune{0x1100, 0x1161, 0x11a8}, []rune{0x1100, 0x1161, 0x11a8}, []rune{0xac01}},
		{[]rune{0xac00, 0x11a8}, []rune{0x1100, 0x1161, 0x11a8}, []rune{0xac01}},
		{[]rune{0x1100, 0x327, 0x1161}, []rune{0x1100, 0x327, 0x1161}, []rune{0x1100, 0x327, 0x1161}},
		{[]rune{0x41, 0x300, 0x1100ff, 0x327, 0x300}, []rune{0x41, 0x300, 0x1100ff, 0x327, 0x300}, []rune{0xc0, 0x1100ff, 0x327, 0x300}},
		{[]rune{0xc5}, []rune{0x41, 0x300}, []rune{0xc0}},
	} {
		if got := normal.Decompose(p, x.l); !slices.Equal(got, x.down) {
			t.Errorf("Decompose(%x): %x, want %x", x.l, got, x.down)
		}
		if got := normal.Compose(p, x.l); !slices.Equal(got, x.up) {
			t.Errorf("Compose(%x): %x, want %x", x.l, got, x.up)
		}
		check(t, p, x.l)
	}
}

// P7.1: letters in use: whatever the order of their marks, those that may be told apart are.
func TestPeople(t *testing.T) {
	p := parsed(t, people)
	for _, x := range []struct {
		down, up []rune
		others   [][]rune
	}{
		{[]rune{0x41, 0x30a}, []rune{0xc5}, [][]rune{{0x212b}, {0xc5}}},
		{[]rune{0x3a9}, []rune{0x3a9}, [][]rune{{0x2126}}},
		{[]rune{0x44, 0x323, 0x307}, []rune{0x1e0c, 0x307}, [][]rune{{0x1e0a, 0x323}, {0x1e0c, 0x307}, {0x44, 0x307, 0x323}}},
		{[]rune{0x73, 0x323, 0x307}, []rune{0x1e69}, [][]rune{{0x1e69}, {0x1e61, 0x323}, {0x1e63, 0x307}, {0x73, 0x307, 0x323}}},
		{[]rune{0x6f, 0x31b, 0x323, 0x302}, []rune{0x1ee3, 0x302}, [][]rune{{0xf4, 0x323, 0x31b}, {0x6f, 0x302, 0x31b, 0x323}, {0x1ed9, 0x31b}, {0x1ecd, 0x302, 0x31b}, {0x1a1, 0x302, 0x323}}},
		{[]rune{0x3b1, 0x313, 0x301, 0x345}, []rune{0x1f84}, [][]rune{{0x3b1, 0x345, 0x313, 0x301}, {0x1f00, 0x345, 0x301}, {0x1f04, 0x345}, {0x3b1, 0x313, 0x345, 0x301}}},
		{[]rune{0x3b1, 0x301, 0x313, 0x345}, []rune{0x3ac, 0x313, 0x345}, [][]rune{{0x3ac, 0x345, 0x313}}},
		{[]rune{0x308, 0x301}, []rune{0x308, 0x301}, [][]rune{{0x344}}},
		{[]rune{0x61, 0x308, 0x301}, []rune{0x61, 0x308, 0x301}, [][]rune{{0x61, 0x344}}},
	} {
		for _, l := range append(x.others, x.down, x.up) {
			if got := normal.Decompose(p, l); !slices.Equal(got, x.down) {
				t.Errorf("Decompose(%x): %x, want %x", l, got, x.down)
			}
			if got := normal.Compose(p, l); !slices.Equal(got, x.up) {
				t.Errorf("Compose(%x): %x, want %x", l, got, x.up)
			}
			check(t, p, l)
		}
	}
}

// P7.1: marks at the beginning, marks alone, of one class, of classes that fall; and what parts their runs.
func TestMarks(t *testing.T) {
	p := parsed(t, odd)
	for _, x := range []struct{ l, down []rune }{
		{[]rune{0x54, 0x53, 0x52, 0x51, 0x50}, []rune{0x50, 0x52, 0x51, 0x53, 0x54}},
		{[]rune{0x52, 0x51, 0x52, 0x51}, []rune{0x52, 0x51, 0x52, 0x51}},
		{[]rune{0x51, 0x50, 0x52, 0x50, 0x51}, []rune{0x50, 0x50, 0x51, 0x52, 0x51}},
		{[]rune{0x53, 0x50, 0x41, 0x53, 0x50}, []rune{0x50, 0x53, 0x41, 0x50, 0x53}},
		{[]rune{0x53, -1, 0x50, 0xd800, 0x51, 0x50, 0x110100, 0x54, 0x53}, []rune{0x53, -1, 0x50, 0xd800, 0x50, 0x51, 0x110100, 0x53, 0x54}},
		{[]rune{0x53, 0x1100cc, 0x50, 0x1100ff, 0x54, 0x50}, []rune{0x53, 0x1100cc, 0x50, 0x1100ff, 0x50, 0x54}},
		{[]rune{0x61}, []rune{0x50, 0x51}},
		{[]rune{0x53, 0x61, 0x53, 0x50}, []rune{0x50, 0x50, 0x51, 0x53, 0x53}}, // marks alone go among marks
		{[]rune{0x54, 0x62, 0x50}, []rune{0x53, 0x54, 0x42, 0x50, 0x50}},       // a mark at its beginning goes ahead, one at its end stays behind
		{[]rune{0x54, 0x60, 0x50}, []rune{0x54, 0x41, 0x50, 0x50}},             // its class is that of a mark, but it begins with a starter
		{[]rune{0x50, 0x65, 0x53}, []rune{0x50, 0x53, 0x54}},                   // not its own class counts
		{[]rune{0x64, 0x50}, []rune{0x53, 0x42, 0x50, 0x50, 0x50, 0x51}},
		{[]rune{0x63, 0x54, 0x6f}, []rune{0x42, 0x43, 0x54, 0x41}},
	} {
		if got := normal.Decompose(p, x.l); !slices.Equal(got, x.down) {
			t.Errorf("Decompose(%x): %x, want %x", x.l, got, x.down)
		}
		check(t, p, x.l)
	}
}

// P7.1: what is composed, and what is blocked.
func TestBlocked(t *testing.T) {
	p := parsed(t, odd)
	for _, x := range []struct{ l, up []rune }{
		{[]rune{0x42, 0x51, 0x53}, []rune{0x67}},
		{[]rune{0x42, 0x51, 0x53, 0x42, 0x54}, []rune{0x69}}, // again and again, once with a starter
		{[]rune{0x42, 0x51, 0x53, 0x42, 0x42}, []rune{0x68, 0x42}},
		{[]rune{0x42, 0x52, 0x51, 0x53}, []rune{0x42, 0x52, 0x51, 0x53}},               // 51 is blocked by one of its own class
		{[]rune{0x42, 0x50, 0x51, 0x53}, []rune{0x67, 0x50}},                           // one of a lesser class doesn't
		{[]rune{0x42, 0x51, 0x53, 0x54, 0x42}, []rune{0x67, 0x54, 0x42}},               // the second 42 is blocked by one of a greater class
		{[]rune{0x42, 0x51, 0x53, 0x50, 0x42}, []rune{0x67, 0x50, 0x42}},               // so it is by any that isn't the starter
		{[]rune{0x43, 0x54}, []rune{0x6d}},                                             // the least point
		{[]rune{0x43, 0x42, 0x54}, []rune{0x43, 0x42, 0x54}},                           // only the last one of class 0 is the starter
		{[]rune{0x41, 0x50, 0x50}, []rune{0x60, 0x50}},                                 // 60 has a class, and stays the starter
		{[]rune{0x41, 0x50, 0x51}, []rune{0x60, 0x51}},                                 // 6A is not made: 60 has a class
		{[]rune{0x41, 0x50, 0x42, 0x51, 0x53}, []rune{0x60, 0x67}},                     // nor is 6B; 42 is the next starter
		{[]rune{0x43, 0x41, 0x50, 0x54}, []rune{0x43, 0x60, 0x54}},                     // 43 isn't the starter again, though 60 has a class
		{[]rune{0x42, 0x41, 0x50, 0x51}, []rune{0x42, 0x60, 0x51}},                     // nor is 42
		{[]rune{0x42, 0x43, 0x54}, []rune{0x63, 0x54}},                                 // two starters that get a class
		{[]rune{0x43, 0x42, 0x43, 0x54}, []rune{0x43, 0x63, 0x54}},                     // and stay the starter
		{[]rune{0x50, 0x51}, []rune{0x50, 0x51}},                                       // 6C is not made: there is no starter
		{[]rune{0x6c, 0x41}, []rune{0x50, 0x51, 0x41}},                                 // what was 6C is not, either
		{[]rune{0x41, 0x51, 0x6f}, []rune{0x41, 0x51, 0x41}},                           // 6F is a point alone, and never made
		{[]rune{0x53, 0x51, 0x42, 0x51, -1, 0x51}, []rune{0x51, 0x53, 0x66, -1, 0x51}}, // numbers that are no points are starters
		{[]rune{0x42, 0x1100ff, 0x51, 0x42, 0x51}, []rune{0x42, 0x1100ff, 0x51, 0x66}}, // so are ill-formed bytes
		{[]rune{0x42, 0x54, 0x53, 0x52, 0x51}, []rune{0x42, 0x52, 0x51, 0x53, 0x54}},   // blocked is what is put in order
		{[]rune{0x42, 0x54, 0x53, 0x51, 0x52, 0x50}, []rune{0x67, 0x50, 0x52, 0x54}},   // of the marks between only those that are left count
	} {
		if got := normal.Compose(p, x.l); !slices.Equal(got, x.up) {
			t.Errorf("Compose(%x): %x, want %x", x.l, got, x.up)
		}
		check(t, p, x.l)
	}
}

// P7.1: the syllables of Hangul, with tails and without; their parts, with marks between.
func TestHangul(t *testing.T) {
	p := parsed(t, file)
	for syllable := rune(0xac00); syllable <= 0xd7a3; syllable++ {
		n := syllable - 0xac00
		parts := []rune{0x1100 + n/588, 0x1161 + n%588/28}
		if n%28 != 0 {
			parts = append(parts, 0x11a7+n%28)
		}
		l := append(slices.Clone(parts), 0x300)
		if got := normal.Decompose(p, []rune{syllable, 0x300}); !slices.Equal(got, l) {
			t.Fatalf("Decompose(%x 300): %x", syllable, got)
		}
		if got := normal.Compose(p, l); !slices.Equal(got, []rune{syllable, 0x300}) {
			t.Fatalf("Compose(%x): %x", l, got)
		}
	}
	for _, x := range []struct{ l, up []rune }{
		{[]rune{0x1100, 0x1161, 0x11a7}, []rune{0xac00, 0x11a7}},
		{[]rune{0x1100, 0x1161, 0x11c2}, []rune{0xac1b}},
		{[]rune{0x1100, 0x1161, 0x11c3}, []rune{0xac00, 0x11c3}},
		{[]rune{0x1100, 0x1160, 0x11a8}, []rune{0x1100, 0x1160, 0x11a8}},
		{[]rune{0x1100, 0x1175, 0x11a8}, []rune{0xae31}},
		{[]rune{0x1100, 0x1176}, []rune{0x1100, 0x1176}},
		{[]rune{0x10ff, 0x1161}, []rune{0x10ff, 0x1161}},
		{[]rune{0x1112, 0x1175, 0x11c2}, []rune{0xd7a3}},
		{[]rune{0x1113, 0x1161}, []rune{0x1113, 0x1161}},
		{[]rune{0xabff, 0xac00, 0xd7a3, 0xd7a4}, []rune{0xabff, 0xac00, 0xd7a3, 0xd7a4}},
		{[]rune{0xac01, 0x11a8}, []rune{0xac01, 0x11a8}},
		{[]rune{0xac00, 0x11a8, 0x11a8}, []rune{0xac01, 0x11a8}},
		{[]rune{0xac00, 0x1161}, []rune{0xac00, 0x1161}},
		{[]rune{0xac00, 0x327, 0x11a8}, []rune{0xac00, 0x327, 0x11a8}},
		{[]rune{0xac00, 0x302, 0x11a8}, []rune{0xac00, 0x302, 0x11a8}},
		{[]rune{0x1100, 0x1100, 0x1161, 0x1161}, []rune{0x1100, 0xac00, 0x1161}},
		{[]rune{0x1161, 0x1100}, []rune{0x1161, 0x1100}},
		{[]rune{0x11a8, 0x1100, 0x1161}, []rune{0x11a8, 0xac00}},
		{[]rune{0x300, 0x1100, 0x1161, 0x301, 0x327}, []rune{0x300, 0xac00, 0x327, 0x301}},
	} {
		if got := normal.Compose(p, x.l); !slices.Equal(got, x.up) {
			t.Errorf("Compose(%x): %x, want %x", x.l, got, x.up)
		}
		check(t, p, x.l)
	}
}

// P7.1, P7.5: all short rows, and longer ones by chance.
func TestAllRows(t *testing.T) {
	for s, letters := range map[string][]rune{
		file:   {0x41, 0x42, 0xc0, 0xc5, 0x1ea6, 0x300, 0x301, 0x302, 0x327, 0x1100ff, -1},
		odd:    {0x41, 0x42, 0x43, 0x50, 0x51, 0x52, 0x53, 0x60, 0x61, 0x62, 0x63},
		people: {0x6f, 0xf4, 0x1a1, 0x1ecd, 0x1ed9, 0x302, 0x31b, 0x323, 0x344, 0x1f00, 0x345},
		"":     {0x1100, 0x1161, 0x11a8, 0xac00, 0xac01, 0x41, 0xd7a3, 0x11a7},
	} {
		p := parsed(t, s)
		rows(letters, 4, func(l []rune) { check(t, p, l) })
		c := chance(1)
		for n := range 1500 {
			check(t, p, c.row(slices.Concat(letters, oddPoints, beside), n%40))
		}
	}
	p := parsed(t, odd)
	rows(oddPoints, 3, func(l []rune) { check(t, p, l) })
}

// P7.5: two rows have one decomposed row just if they have one composed row.
func TestSameRows(t *testing.T) {
	for s, letters := range map[string][]rune{
		file: {0x41, 0xc0, 0xc5, 0x1ea6, 0x300, 0x301, 0x327, 0x302},
		odd:  {0x41, 0x42, 0x50, 0x51, 0x60, 0x66, 0x61, 0x62, 0x6c, 0x6f},
		"":   {0x1100, 0x1161, 0x11a8, 0xac00, 0xac01},
	} {
		p := parsed(t, s)
		downOf, upOf := map[string]string{}, map[string]string{}
		rows(letters, 4, func(l []rune) {
			down, up := string(normal.Decompose(p, l)), string(normal.Compose(p, l))
			if x, ok := downOf[up]; ok && x != down {
				t.Fatalf("two decomposed rows, one composed row: %x", l)
			}
			if x, ok := upOf[down]; ok && x != up {
				t.Fatalf("two composed rows, one decomposed row: %x", l)
			}
			downOf[up], upOf[down] = down, up
		})
	}
}

// P7.1, P7.3, P7.4: points of which no line speaks, and numbers that are none, decompose to themselves and part marks.
func TestBeside(t *testing.T) {
	p := parsed(t, "class 0000..10FFFF 7\nclass 0041 0\n"+"decomp 00C0 0041 0300\n")
	for _, r := range slices.Concat(beside, []rune{0x1100, 0x1161, 0x11a8}) {
		l := []rune{0x300, r, 0x41, 0x300, r, r, 0x300}
		if got := normal.Decompose(p, l); !slices.Equal(got, l) {
			t.Errorf("Decompose(%x): %x", l, got)
		}
		if got, want := normal.Compose(p, l), []rune{0x300, r, 0xc0, r, r, 0x300}; !slices.Equal(got, want) {
			t.Errorf("Compose(%x): %x", l, got)
		}
		if !normal.Cut(p, l, 1) || normal.Cut(p, l, 3) || !normal.Cut(p, l, 4) || !normal.Cut(p, l, 5) {
			t.Errorf("Cut of %x", l)
		}
		s := normal.New(p)
		if got := s.Write(l[:2]); !slices.Equal(got, l[:2]) {
			t.Errorf("Write(%x): %x", l[:2], got)
		}
	}
	// Of 0, 7F and 10FFFF lines speak, and of all that is no Hangul.
	for _, r := range []rune{0, 0x7f, 0xe000, 0x10ffff, 0x10ff, 0x1113, 0x1160, 0x1176, 0x11a7, 0x11c3, 0xabff, 0xd7a4} {
		if normal.Cut(p, []rune{0x41, r}, 1) {
			t.Errorf("Cut ahead of %x, which has a class", r)
		}
	}
}

// P7.1 and P7.3 go by the properties that are handed in.
func TestOtherProps(t *testing.T) {
	none, some := parsed(t, ""), parsed(t, file)
	l := []rune{0xc0, 0x301, 0x327, 0xac00}
	if got := normal.Decompose(none, l); !slices.Equal(got, []rune{0xc0, 0x301, 0x327, 0x1100, 0x1161}) {
		t.Errorf("without properties: %x", got)
	}
	if got := normal.Compose(none, l); !slices.Equal(got, l) {
		t.Errorf("without properties: %x", got)
	}
	if !normal.Cut(none, l, 1) || normal.Cut(some, l, 1) {
		t.Error("Cut goes by other properties")
	}
	if !normal.Is(none, "\u00c0", false) || normal.Is(some, "\u00c0", false) {
		t.Error("Is goes by other properties")
	}
	if s := normal.Text(some, "\u00c0", false) + normal.Text(none, "\u00c0", false); s != "A\u0300\u00c0" {
		t.Errorf("Text goes by other properties: %q", s)
	}
	a, b := normal.New(none), normal.New(some)
	if x, y := a.Write(l[:3]), b.Write(l[:3]); !slices.Equal(x, l[:3]) || !slices.Equal(y, []rune{0x41}) {
		t.Errorf("Write goes by other properties: %x, %x", x, y)
	}
}

// P7.3: the chapter's examples, places beside a row, and points that begin with a mark.
func TestCut(t *testing.T) {
	p := parsed(t, file)
	for _, x := range []struct {
		l    []rune
		at   int
		want bool
	}{
		{[]rune{0x41, 0x300, 0x42}, 0, true}, {[]rune{0x41, 0x300, 0x42}, 1, false}, {[]rune{0x41, 0x300, 0x42}, 2, true}, {[]rune{0x41, 0x300, 0x42}, 3, true}, {[]rune{0x41, 0x300, 0x42}, 4, false}, {[]rune{0x41, 0x300, 0x42}, -1, false},
		{[]rune{0x41, 0xc0}, 1, true},
		{nil, 0, true}, {nil, 1, false}, {nil, -1, false}, {[]rune{}, 0, true},
		{[]rune{0x300}, 0, true}, {[]rune{0x300}, 1, true}, {[]rune{0x300}, 2, false},
		{[]rune{0x300, 0x300}, 1, false},
		{[]rune{0x41}, math.MaxInt, false}, {[]rune{0x41}, math.MinInt, false},
	} {
		if got := normal.Cut(p, x.l, x.at); got != x.want {
			t.Errorf("Cut(%x, %d): %v", x.l, x.at, got)
		}
	}
	p = parsed(t, odd+"decomp 0070 0071 0041\ndecomp 0071 0072\ndecomp 0072 0062\ndecomp 0073 0041 0070\nclass 0073 9")
	for r, want := range map[rune]bool{0x50: false, 0x60: true, 0x61: false, 0x62: false, 0x63: true, 0x64: false, 0x65: false, 0x6c: false, 0x70: false, 0x71: false, 0x72: false, 0x73: true, 0xac01: true, 0x1161: true, 0x11a8: true, 0x1100ff: true, -1: true} {
		if got := normal.Cut(p, []rune{0x41, r, 0x41}, 1); got != want {
			t.Errorf("Cut ahead of %x: %v", r, got)
		}
		if !normal.Cut(p, []rune{r, 0x41}, 0) || !normal.Cut(p, []rune{0x41, r}, 2) {
			t.Errorf("Cut at the edges of a row with %x", r)
		}
	}
}

// P7.3, P7.6: where rows are cut, and that both pieces then make up the decomposed row.
func TestCutRows(t *testing.T) {
	cut := func(p *props.Props, l []rune) {
		whole := normal.Decompose(p, l)
		for at := -2; at <= len(l)+2; at++ {
			got := normal.Cut(p, l, at)
			if got != plainCut(p, l, at) {
				t.Fatalf("Cut(%x, %d): %v", l, at, got)
			}
			if got && !slices.Equal(append(normal.Decompose(p, l[:at]), normal.Decompose(p, l[at:])...), whole) {
				t.Fatalf("the pieces of %x, cut at %d, are not %x", l, at, whole)
			}
		}
	}
	p := parsed(t, odd)
	rows(oddPoints, 3, func(l []rune) { cut(p, l) })
	c := chance(3)
	for n := range 2000 {
		cut(p, c.row(oddPoints, n%16))
	}
	p = parsed(t, file)
	rows([]rune{0x41, 0xc0, 0x300, 0x302, 0x327, 0xac01}, 5, func(l []rune) { cut(p, l) })
}

// P7.2: the chapter's examples, and the empty text.
func TestTexts(t *testing.T) {
	p := parsed(t, file)
	for _, x := range []struct{ s, down, up string }{
		{"", "", ""},
		{"abc", "abc", "abc"},
		{"\u00c0\u0327", "A\xcc\xa7\xcc\x80", "\xc3\x80\xcc\xa7"},
		{"A\u0300\u0327\xc3", "A\u0327\u0300\xc3", "\u00c0\u0327\xc3"},
		{"\xff", "\xff", "\xff"},
		{"\xccA\u0300\xcc", "\xccA\u0300\xcc", "\xcc\u00c0\xcc"},
		{"A\xff\u0300\u0327\xff\u0300", "A\xff\u0327\u0300\xff\u0300", "A\xff\u0327\u0300\xff\u0300"},
		{"\x80\u0301\u0327\x80\xe2\x82", "\x80\u0327\u0301\x80\xe2\x82", "\x80\u0327\u0301\x80\xe2\x82"},
		{"\ufffd\u0301\u0327", "\ufffd\u0327\u0301", "\ufffd\u0327\u0301"},
		{"\xed\xa0\x80A\u0301\u0327", "\xed\xa0\x80A\u0327\u0301", "\xed\xa0\x80A\u0327\u0301"},
		{"\uac01\u1100\u1161\u11a8", "\u1100\u1161\u11a8\u1100\u1161\u11a8", "\uac01\uac01"},
		{"\x00\U0010ffff\u00c5", "\x00\U0010ffffA\u0300", "\x00\U0010ffff\u00c0"},
	} {
		if got := normal.Text(p, x.s, false); got != x.down {
			t.Errorf("Text(%q), decomposed: %q, want %q", x.s, got, x.down)
		}
		if got := normal.Text(p, x.s, true); got != x.up {
			t.Errorf("Text(%q), composed: %q, want %q", x.s, got, x.up)
		}
		if down, up := normal.Is(p, x.s, false), normal.Is(p, x.s, true); down != (x.s == x.down) || up != (x.s == x.up) {
			t.Errorf("Is(%q): %v, %v", x.s, down, up)
		}
	}
}

// P7.2, P7.8: texts of all sorts of pieces: whole characters, bytes of such, bytes that never are.
func TestAllTexts(t *testing.T) {
	p := parsed(t, file+"decomp 00E0 0041\nclass 00C5 3\n")
	pieces := []string{"A", "\u0300", "\u0327", "\u00c0", "\u1ea6", "\u00e0", "\xcc", "\x80", "\xff", "\xe1\xba", "\uac01", "\u1100"}
	numbers := make([]rune, len(pieces))
	for i := range pieces {
		numbers[i] = rune(i)
	}
	rows(numbers, 4, func(l []rune) {
		s := ""
		for _, i := range l {
			s += pieces[i]
		}
		checkText(t, p, s)
	})
	c := chance(5)
	for n := range 3000 {
		b := make([]byte, n%30)
		for i := range b {
			b[i] = "A\x00\xcc\x80\xa7\xc3\xe1\xba\xa6\xff\xed\x84\x85\xa1\xea\xb0"[c.below(16)]
		}
		checkText(t, p, string(b))
	}
}

// checkText holds both texts of a text against the rows of the second way.
func checkText(t *testing.T, p *props.Props, s string) {
	t.Helper()
	down, up := normal.Text(p, s, false), normal.Text(p, s, true)
	l := points.Of(s)
	if got := points.Of(down); !slices.Equal(got, plainDecompose(p, l)) {
		t.Fatalf("Text(%q), decomposed: %q", s, down)
	}
	if got := points.Of(up); !slices.Equal(got, plainCompose(p, l)) {
		t.Fatalf("Text(%q), composed: %q", s, up)
	}
	for _, text := range []string{s, down, up} {
		for _, composed := range []bool{false, true} {
			want := down
			if composed {
				want = up
			}
			if got := normal.Text(p, text, composed); got != want {
				t.Fatalf("Text(%q, %v), from %q: %q, want %q", text, composed, s, got, want)
			}
			if got := normal.Is(p, text, composed); got != (text == want) {
				t.Fatalf("Is(%q, %v): %v", text, composed, got)
			}
		}
	}
}
