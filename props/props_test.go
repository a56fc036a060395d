package props_test

import (
	"errors"
	"math"
	"slices"
	"strings"
	"sync"
	"testing"

	"glossary/api"
	"glossary/props"
)

// The calls have the signatures that the chapter lists.
var (
	_ func(string) (*props.Props, error)                    = props.Parse
	_ func(*props.Props, rune) int                          = (*props.Props).Class
	_ func(*props.Props, rune) []rune                       = (*props.Props).Decomp
	_ func(*props.Props, rune, rune) (r rune, isThere bool) = (*props.Props).Compose
	_ func(*props.Props, rune) []rune                       = (*props.Props).Fold
	_ func(*props.Props, rune) int                          = (*props.Props).Kind
)

// file is the chapter's file F.
const file = "class 0300..0304 230\nclass 0327 202 # below\nclass 0302 0\nkind 0041..005A letter\nfold 0041 0061\ndecomp 00C0 0041 0300\ndecomp 1EA6 00C0 0301\ndecomp 00C5 0041 0300\n"

// beside are numbers that are no characters.
var beside = []rune{-1, -2, math.MinInt32, 0xd800, 0xd801, 0xdbff, 0xdc00, 0xdfff, 0x110000, 0x11007f, 0x110080, 0x1100c3, 0x1100ff, 0x110100, math.MaxInt32}

// parsed are the properties of a file that is right.
func parsed(t *testing.T, s string) *props.Props {
	t.Helper()
	p, e := props.Parse(s)
	if p == nil || e != nil {
		t.Fatalf("Parse(%.200q): %v", s, e)
	}
	return p
}

// refused tells what is wrong with an answer that should be this fault and nothing else.
func refused(p *props.Props, e error, want api.Fault) string {
	var f api.Fault
	switch {
	case p != nil:
		return "there are properties beside the error"
	case errors.As(e, &f) != (want.Line > 0):
		return "a place is told where there is none, or none where there is one"
	case want.Line > 0 && f != want:
		return "another place, or another number"
	}
	for n := api.OK; n <= api.ErrBracket; n++ {
		if errors.Is(e, n) != (n == want.No) {
			return "it is told to be what it isn't, or not what it is: " + n.Error()
		}
	}
	return ""
}

// ask holds all that is told of a point, and of what it makes with these behind it, against the facts.
func ask(t *testing.T, p *props.Props, f facts, r rune, behind []rune) {
	t.Helper()
	if got, want := p.Class(r), f.class(r); got != want {
		t.Fatalf("Class(%x): %d, want %d, by %v", r, got, want, f)
	}
	if got, want := p.Kind(r), f.kind(r); got != want {
		t.Fatalf("Kind(%x): %d, want %d, by %v", r, got, want, f)
	}
	if got, want := p.Decomp(r), f.decomp(r); !slices.Equal(got, want) {
		t.Fatalf("Decomp(%x): %x, want %x, by %v", r, got, want, f)
	}
	if got, want := p.Fold(r), f.fold(r); !slices.Equal(got, want) {
		t.Fatalf("Fold(%x): %x, want %x, by %v", r, got, want, f)
	}
	for _, b := range behind {
		got, ok := p.Compose(r, b)
		if want, wantOK := f.compose(r, b); got != want || ok != wantOK {
			t.Fatalf("Compose(%x, %x): %x %v, want %x %v, by %v", r, b, got, ok, want, wantOK, f)
		}
	}
}

// named are the points of which facts speak, with their neighbours.
func (f facts) named() []rune {
	l := []rune{0, 0x41, 0x10ffff}
	for _, x := range f {
		l = append(l, x.lo-1, x.lo, x.lo+1, x.hi-1, x.hi, x.hi+1)
		l = append(l, x.list...)
	}
	slices.Sort(l)
	return slices.Compact(l)
}

// edges are the first and the last syllable, lead, vowel and tail, with their neighbours, and syllables with a tail and without.
var edges = []rune{
	0x10ff, 0x1100, 0x1101, 0x1111, 0x1112, 0x1113, 0x1160, 0x1161, 0x1162, 0x1174, 0x1175, 0x1176, 0x11a6, 0x11a7, 0x11a8, 0x11a9, 0x11c1, 0x11c2, 0x11c3,
	0xabff, 0xac00, 0xac01, 0xac02, 0xac1b, 0xac1c, 0xac1d, 0xae4b, 0xae4c, 0xd787, 0xd788, 0xd789, 0xd7a2, 0xd7a3, 0xd7a4,
}

// P6.1, P6.3 to P6.5: the chapter's examples of its file F.
func TestExamples(t *testing.T) {
	p := parsed(t, file)
	for _, x := range []struct {
		r    rune
		want int
	}{{0x301, 230}, {0x302, 0}, {0x327, 202}, {0xac00, 0}, {0xd800, 0}, {0x110080, 0}, {0x2ff, 0}, {0x300, 230}, {0x303, 230}, {0x304, 230}, {0x305, 0}, {0x326, 0}, {0x328, 0}, {0x41, 0}} {
		if got := p.Class(x.r); got != x.want {
			t.Errorf("Class(%x): %d, want %d", x.r, got, x.want)
		}
	}
	for _, x := range []struct {
		r    rune
		want int
	}{{0x41, api.PLetter}, {0x61, api.POther}, {0xac00, api.PLetter}, {-1, api.POther}, {0x40, api.POther}, {0x5a, api.PLetter}, {0x5b, api.POther}, {0xd7a3, api.PLetter}, {0xd7a4, api.POther}, {0x1100, api.POther}} {
		if got := p.Kind(x.r); got != x.want {
			t.Errorf("Kind(%x): %d, want %d", x.r, got, x.want)
		}
	}
	for _, x := range []struct {
		r    rune
		want []rune
	}{{0x1ea6, []rune{0xc0, 0x301}}, {0x41, nil}, {0xac01, []rune{0x1100, 0x1161, 0x11a8}}, {0xac00, []rune{0x1100, 0x1161}}, {0xc0, []rune{0x41, 0x300}}, {0xc5, []rune{0x41, 0x300}}, {0xd7a3, []rune{0x1112, 0x1175, 0x11c2}}} {
		if got := p.Decomp(x.r); !slices.Equal(got, x.want) {
			t.Errorf("Decomp(%x): %x, want %x", x.r, got, x.want)
		}
	}
	for _, x := range []struct{ r, want rune }{{0x41, 0x61}, {0x42, 0x42}, {0x1100ff, 0x1100ff}, {0x61, 0x61}, {-1, -1}, {0xd800, 0xd800}, {0xac00, 0xac00}} {
		if got := p.Fold(x.r); !slices.Equal(got, []rune{x.want}) {
			t.Errorf("Fold(%x): %x, want %x", x.r, got, x.want)
		}
	}
	checkMade(t, p, map[[2]rune]rune{{0x41, 0x300}: 0xc0, {0xc0, 0x301}: 0x1ea6, {0x300, 0x301}: 0, {0x1100, 0x1161}: 0xac00, {0xac00, 0x11a8}: 0xac01, {0xac01, 0x11a8}: 0})
	checkMade(t, parsed(t, file+"decomp 0344 0300 0301\n"), map[[2]rune]rune{{0x300, 0x301}: 0, {0x41, 0x300}: 0xc0})
}

// checkMade checks what pairs make; 0 stands for nothing.
func checkMade(t *testing.T, p *props.Props, want map[[2]rune]rune) {
	t.Helper()
	for pair, r := range want {
		if got, ok := p.Compose(pair[0], pair[1]); got != r || ok != (r != 0) {
			t.Errorf("Compose(%x): %x %v, want %x", pair, got, ok, r)
		}
	}
}

// P6.3: of every number, with rows over one another of all sorts, held against all points painted line by line.
func TestEveryPoint(t *testing.T) {
	for _, s := range []string{
		"", file, "class 0000..10FFFF 1\nkind 0000..10FFFF control\n", "class 0000 254\nclass 10FFFF 1\nkind 0000 mark\nkind 10FFFF middle", "class D7FF..E000 9\nkind D7FF..E000 space\nkind AC00..AC00 other",
		"class 0000..10FFFF 7\nclass 0010..0020 8\nclass 0018..0030 9\nclass 0018 0\nclass 0019..0019 7\nclass 1000..FFFF 8\nclass 10FFFF 8\n",
		"kind AB00..AC00 digit\nkind D7A3..E000 mark\nkind AD00 other\nkind AD01 letter\nclass AB00..AC01 3\nclass D7A3..D7A4 4\nclass 1000..1200 5\nclass 1113..1160 6\n",
		"class 0005..0010 1\nclass 0005..0010 2\nclass 0005..000F 3\nclass 0006..0010 4\nclass 0004..0005 5\nclass 0010..0011 6\nclass 0000..0003 7\n",
		"class 0030..0039 5\nclass 0000..10FFFF 0\nkind 0030..0039 digit\nkind 0000..10FFFF other\n", manyRows(40, 11), manyRows(400, 12),
	} {
		f, _ := told(s)
		p := parsed(t, s)
		classes, kinds := painted(f)
		for r := rune(-3); r < 0x110110; r++ {
			class, kind := 0, 0
			if isChar(r) {
				class, kind = classes[r], kinds[r]
			}
			if p.Class(r) != class || p.Kind(r) != kind {
				t.Fatalf("%.200q: Class and Kind of %x: %d, %d; want %d, %d", s, r, p.Class(r), p.Kind(r), class, kind)
			}
		}
		for _, r := range beside {
			if p.Class(r) != 0 || p.Kind(r) != api.POther || p.Decomp(r) != nil || !slices.Equal(p.Fold(r), []rune{r}) {
				t.Errorf("%.200q: of %x, which is no character, something is told", s, r)
			}
		}
	}
}

// painted are the classes and kinds of all numbers from 0 on, told anew by each line of facts.
func painted(f facts) (classes, kinds []int) {
	classes, kinds = make([]int, 0x110000), make([]int, 0x110000)
	for r := range hangul {
		kinds[r] = api.PLetter
	}
	for _, x := range f {
		for r := x.lo; r <= x.hi; r++ {
			if x.word == "class" {
				classes[r] = x.value
			} else if x.word == "kind" {
				kinds[r] = x.value
			}
		}
	}
	for r := range rune(0x110000) {
		if isHangul(r) {
			classes[r] = 0
		}
	}
	return classes, kinds
}

// manyRows is a file of rows over one another, made by chance.
func manyRows(n int, c chance) string {
	var b strings.Builder
	for range n {
		lo := rune(c.below(0x1000))
		hi := lo + rune(c.below(1+c.below(0x400)))
		switch c.below(6) {
		case 0:
			lo, hi = edges[c.below(len(edges))], 0xd7ff
		case 1:
			lo, hi = lo*8, 0xe000+hi*0x10
		}
		if c.below(2) == 0 {
			b.WriteString("class " + hex(lo) + ".." + hex(hi) + " " + []string{"0", "1", "230", "254"}[c.below(4)] + "\n")
		} else {
			b.WriteString("kind " + hex(lo) + ".." + hex(hi) + " " + names[c.below(len(names))] + "\n")
		}
	}
	return b.String()
}

// P6.3: each kind, and each class.
func TestEachValue(t *testing.T) {
	for kind, name := range names {
		if got := parsed(t, "kind 0041 "+name).Kind(0x41); got != kind {
			t.Errorf("kind %s: %d, want %d", name, got, kind)
		}
	}
	if api.POther != 0 || api.PMiddle != 7 {
		t.Error("the kinds have other numbers")
	}
	for n := range 255 {
		if got := parsed(t, "class 0041 "+decimal(n)).Class(0x41); got != n {
			t.Errorf("class %d: %d", n, got)
		}
	}
}

// P6.3: later lines hold over earlier ones, wherever they stand.
func TestLaterLines(t *testing.T) {
	for s, want := range map[string][3]int{ // of 41, 42 and 43
		"class 0041..0043 1\nclass 0042 2": {1, 2, 1}, "class 0042 2\nclass 0041..0043 1": {1, 1, 1}, "class 0041..0043 1\nclass 0042 0": {1, 0, 1}, "class 0041..0042 1\nclass 0042..0043 2": {1, 2, 2}, "class 0042..0043 2\nclass 0041..0042 1": {1, 1, 2},
		"class 0041..0043 1\nclass 0042 2\nclass 0042 1": {1, 1, 1}, "class 0042 1\n\nclass 0042 2\n#\nclass 0042 3": {0, 3, 0}, "class 0041 1\nkind 0041..0043 digit\nclass 0043 3": {1, 0, 3}, "class 0000..0042 1\nclass 0042..10FFFF 2\nclass 0042..0042 3": {1, 3, 2},
	} {
		p := parsed(t, s)
		if got := [3]int{p.Class(0x41), p.Class(0x42), p.Class(0x43)}; got != want {
			t.Errorf("%q: classes %d; want %d", s, got, want)
		}
	}
	p := parsed(t, "kind 0041..0043 letter\nclass 0041 9\nkind 0042..0050 mark\nkind 0043 other\nkind AC00..AC02 digit\nkind AC01 other")
	for r, want := range map[rune]int{0x40: 0, 0x41: 1, 0x42: 3, 0x43: 0, 0x44: 3, 0x50: 3, 0x51: 0, 0xac00: 2, 0xac01: 0, 0xac02: 2, 0xac03: 1} {
		if got := p.Kind(r); got != want {
			t.Errorf("Kind(%x): %d, want %d", r, got, want)
		}
	}
}

// P6.4, P6.5: every syllable, with every part; whatever lines say.
func TestHangul(t *testing.T) {
	for _, s := range []string{"", "class 0000..10FFFF 230\nkind 0000..10FFFF digit\nfold AC01 0061\ndecomp 0041 1100 1161\ndecomp 0042 AC00 11A8\ndecomp 0043 AC01 11A8\ndecomp 0044 1100 11A8"} {
		p := parsed(t, s)
		for r := rune(0); r <= 0x110100; r++ {
			if want := hangul[r]; want != nil && !slices.Equal(p.Decomp(r), want) {
				t.Fatalf("Decomp(%x): %x, want %x", r, p.Decomp(r), want)
			} else if (want != nil || isHangul(r)) && p.Class(r) != 0 {
				t.Fatalf("Class(%x): %d", r, p.Class(r))
			}
		}
		for pair, want := range hangulPairs {
			if r, ok := p.Compose(pair[0], pair[1]); r != want || !ok {
				t.Fatalf("Compose(%x): %x %v, want %x", pair, r, ok, want)
			}
		}
	}
	p := parsed(t, "")
	made := 0
	for a := rune(0xabf0); a < 0xd7b0; a++ {
		for b := rune(0x11a0); b < 0x11d0; b++ {
			if r, ok := p.Compose(a, b); ok {
				made++
			} else if r != 0 {
				t.Fatalf("Compose(%x, %x): %x beside false", a, b, r)
			}
		}
	}
	for a := rune(0x10f0); a < 0x11d0; a++ {
		for b := rune(0x10f0); b < 0x11d0; b++ {
			if _, ok := p.Compose(a, b); ok {
				made++
			}
		}
	}
	if made != len(hangulPairs) || made != 11172 {
		t.Errorf("%d pairs make a syllable", made)
	}
}

// P6.3 to P6.5: the edges of Hangul, and numbers that are no characters, where lines speak of them or of all around.
func TestHangulEdges(t *testing.T) {
	asked := slices.Concat(edges, beside, []rune{0x41, 0x42, 0x43, 0x44})
	for _, s := range []string{
		"", "class 0000..10FFFF 9\nkind 0000..10FFFF digit", "kind AC00 other\nkind D7A3..D7A4 digit\nkind 1100..11C2 mark", "class 10FF..1113 1\nclass 1160..1176 2\nclass 11A7..11C3 3\nclass ABFF..D7A4 4",
		"decomp 0041 1100 1161\ndecomp 0042 AC01 11A8\ndecomp 0043 1161 1161\ndecomp 0044 AC00 11A7", "decomp 10FF 1100\ndecomp 1113 1100 1162\ndecomp 1160 10FF 1161\ndecomp 1176 1175\ndecomp 11A7 11A6 11A8\ndecomp 11C3 11C2 11C2\ndecomp ABFF AC00\ndecomp D7A4 D7A3",
		"fold AC00 1100\nfold 1100 AC00 AC01\nfold 1161 0041\nfold 11A8 11A8\nfold D7A3 D7A4",
	} {
		f, fault := told(s)
		if fault.No != api.OK {
			t.Fatalf("%q: %v", s, fault)
		}
		p := parsed(t, s)
		for _, r := range asked {
			ask(t, p, f, r, asked)
		}
	}
}

// P6.4: what decomp and fold lines say, of one point to MaxPiece points.
func TestLists(t *testing.T) {
	var l []rune
	words := ""
	for n := range rune(8) {
		l = append(l, 0x61+n)
		words += " " + hex(0x61+n)
		p := parsed(t, "decomp 0041"+words+"\nfold 0041"+words+"\nfold 10FFFF"+words+"\nfold 0042 0042\ndecomp 0000"+words)
		for _, got := range [][]rune{p.Decomp(0x41), p.Fold(0x41), p.Fold(0x10ffff), p.Decomp(0)} {
			if !slices.Equal(got, l) {
				t.Errorf("%q: %x", words, got)
			}
		}
		if p.Decomp(0x42) != nil || p.Decomp(0x10ffff) != nil || !slices.Equal(p.Fold(0x42), []rune{0x42}) || !slices.Equal(p.Fold(0), []rune{0}) {
			t.Errorf("%q: something is told of which no line speaks", words)
		}
	}
	p := parsed(t, "decomp 0041 0042\nfold 0041 0042 0041 0041\nfold 0042 0041\nfold 0043 0043 0043\ndecomp 0042 0043")
	if !slices.Equal(p.Decomp(0x41), []rune{0x42}) || !slices.Equal(p.Fold(0x41), []rune{0x42, 0x41, 0x41}) || !slices.Equal(p.Fold(0x42), []rune{0x41}) || !slices.Equal(p.Fold(0x43), []rune{0x43, 0x43}) {
		t.Errorf("folds that go in a ring, and what is told of a point alone: %x, %x, %x, %x", p.Decomp(0x41), p.Fold(0x41), p.Fold(0x42), p.Fold(0x43))
	}
}

// P6.5: the least point, of just these two, if the class of the first one is 0 by the whole file.
func TestCompose(t *testing.T) {
	for s, want := range map[string]map[[2]rune]rune{
		"decomp 00C5 0041 0300\ndecomp 00C0 0041 0300\ndecomp 00C4 0041 0300": {{0x41, 0x300}: 0xc0, {0x300, 0x41}: 0, {0x41, 0x301}: 0, {0x42, 0x300}: 0},
		"decomp 00C5 0041\ndecomp 00C6 0041 0042 0043\ndecomp 00C7 0041 0041": {{0x41, 0x42}: 0, {0x42, 0x43}: 0, {0x41, 0x43}: 0, {0x41, 0}: 0, {0x41, 0x41}: 0xc7, {0, 0x41}: 0},
		"decomp 00C5 0041 0042\nclass 0041 1":                                 {{0x41, 0x42}: 0},
		"class 0041 1\ndecomp 00C5 0041 0042\nclass 0041 0":                   {{0x41, 0x42}: 0xc5},
		"class 0042 1\ndecomp 00C5 0041 0042\nclass 00C5 230":                 {{0x41, 0x42}: 0xc5},
		"decomp 0041 0000 0000":                                               {{0, 0}: 0x41},
		"decomp 0000 0041 0042":                                               {{0x42, 0x41}: 0},
		"decomp 10FFFF 10FFFE 10FFFD\ndecomp 10FFFE 10FFFC 10FFFD":            {{0x10fffe, 0x10fffd}: 0x10ffff, {0x10fffc, 0x10fffd}: 0x10fffe},
		"decomp 0041 1161 1161\ndecomp 0040 1100 1161\ndecomp 003F AC01 11A8": {{0x1161, 0x1161}: 0x41, {0x1100, 0x1161}: 0xac00, {0xac01, 0x11a8}: 0x3f},
	} {
		checkMade(t, parsed(t, s), want)
	}
	p := parsed(t, "decomp 0000 0041 0042")
	if r, ok := p.Compose(0x41, 0x42); r != 0 || !ok {
		t.Errorf("what is composed to 0: %x %v", r, ok)
	}
	p = parsed(t, file)
	for _, a := range beside {
		for _, b := range slices.Concat(beside, edges, []rune{0, 0x41, 0x300}) {
			checkMade(t, p, map[[2]rune]rune{{a, b}: 0, {b, a}: 0})
		}
	}
}

// P6.6: what Compose tells has just these two as its Decomp, or is a syllable.
func TestComposedHasBoth(t *testing.T) {
	p := parsed(t, file+"decomp 0100 AC00 11A8\ndecomp 0101 AC01 11A8\ndecomp 0102 1100 1161 11A8\ndecomp 0103 0041\nclass 0100..0200 7")
	asked := slices.Concat(edges, []rune{0x41, 0xc0, 0xc5, 0x100, 0x101, 0x102, 0x103, 0x300, 0x301, 0x1ea6})
	made := 0
	for _, a := range asked {
		for _, b := range asked {
			r, ok := p.Compose(a, b)
			if !ok {
				continue
			}
			made++
			want := []rune{a, b}
			if hangul[a] != nil && hangul[r] != nil {
				want = append(p.Decomp(a), b)
			}
			if !slices.Equal(p.Decomp(r), want) {
				t.Errorf("Compose(%x, %x) is %x, whose Decomp is %x", a, b, r, p.Decomp(r))
			}
		}
	}
	if made < 20 {
		t.Errorf("only %d pairs make something", made)
	}
}

// P6.6: lines of class and kind behind a file change nothing of points of which they don't speak.
func TestLinesBehind(t *testing.T) {
	for _, behind := range []string{"class 0303 9", "class 0301..0303 9\nkind 0301..0303 mark", "kind 0041 digit", "class 0000..0040 1\nkind 0000..0040 middle", "class 0300..10FFFF 4", "kind 0000..10FFFF control"} {
		more, _ := told(behind)
		a, b := parsed(t, file), parsed(t, file+behind)
		for r := rune(-1); r <= 0x110100; r++ {
			spoken := func(word string) bool {
				return slices.ContainsFunc(more, func(x said) bool { return x.word == word && x.lo <= r && r <= x.hi })
			}
			if !spoken("class") && a.Class(r) != b.Class(r) || !spoken("kind") && a.Kind(r) != b.Kind(r) {
				t.Fatalf("%q behind: Class and Kind of %x: %d, %d", behind, r, b.Class(r), b.Kind(r))
			}
		}
		for _, r := range []rune{0x41, 0xc0, 0xc5, 0x1ea6, 0xac01, 0x301} {
			if !slices.Equal(a.Decomp(r), b.Decomp(r)) || !slices.Equal(a.Fold(r), b.Fold(r)) {
				t.Errorf("%q behind: Decomp and Fold of %x: %x, %x", behind, r, b.Decomp(r), b.Fold(r))
			}
		}
	}
}

// R4: what is done to an answer changes nothing of what is told afterwards; no two share memory, their spare room included.
func TestMemory(t *testing.T) {
	p := parsed(t, file+"decomp 0100 0041 0042 0043 0044 0045\nfold 0100 0041 0042 0043 0044 0045\nfold AC00 0061")
	for _, r := range []rune{0x41, 0x42, 0xc0, 0xc5, 0x1ea6, 0x100, 0xac00, 0xac01, 0xd7a3, 0x1100ff, -1} {
		for _, call := range []func(rune) []rune{p.Decomp, p.Fold} {
			first, second := call(r), call(r)
			want := slices.Clone(first)
			for i := range first[:cap(first)] {
				first[:cap(first)][i] = -7
			}
			if slices.Contains(second[:cap(second)], -7) || !slices.Equal(second, want) || !slices.Equal(call(r), want) {
				t.Errorf("of %x: %x, and then %x, %x", r, want, second, call(r))
			}
		}
	}
	checkMade(t, p, map[[2]rune]rune{{0x41, 0x300}: 0xc0, {0xc0, 0x301}: 0x1ea6})
}

// R5: many may ask the same properties, and read files, at once; what is told doesn't hang on the time or on other files.
func TestSideBySide(t *testing.T) {
	s := manyRows(60, 3) + file[strings.Index(file, "fold"):]
	f, _ := told(s)
	p := parsed(t, s)
	asked := slices.Concat(edges, []rune{0x41, 0xc0, 0xc5, 0x300, 0x301, 0x1ea6})
	var group sync.WaitGroup
	for range 4 {
		group.Go(func() {
			for range 10 {
				q, e := props.Parse(s)
				if e != nil {
					t.Error(e)
					return
				}
				for _, r := range asked {
					for _, p := range []*props.Props{p, q} {
						made, ok := p.Compose(0x41, r)
						want, wantOK := f.compose(0x41, r)
						if p.Class(r) != f.class(r) || p.Kind(r) != f.kind(r) || !slices.Equal(p.Decomp(r), f.decomp(r)) || !slices.Equal(p.Fold(r), f.fold(r)) || made != want || ok != wantOK {
							t.Errorf("side by side: something else is told of %x", r)
						}
					}
				}
				if _, e := props.Parse(s + "decomp 0050 0051\ndecomp 0051 0050"); !errors.Is(e, api.ErrLoop) {
					t.Errorf("side by side: %v", e)
				}
			}
		})
	}
	group.Wait()
}
