package fold_test

import (
	"slices"
	"strconv"
	"testing"
	"unicode/utf8"

	"glossary/api"
	"glossary/fold"
	"glossary/normal"
	"glossary/points"
	"glossary/props"
)

// check holds what is told of a text against the second way, and what follows from that: P8.1, P8.3, P8.4, P8.6.
func check(t *testing.T, p *props.Props, s string) {
	t.Helper()
	text, spots := fold.Fold(p, s)
	if wantText, wantSpots := plainFold(p, s); text != wantText || !slices.Equal(spots, wantSpots) {
		t.Fatalf("Fold(%q): %q %s, want %q %s", s, text, told(spots), wantText, told(wantSpots))
	}
	if problem := problemOf(s, text, spots); problem != "" {
		t.Fatalf("Fold(%q): %q %s: %s", s, text, told(spots), problem)
	}
	if !normal.Is(p, text, false) {
		t.Fatalf("Fold(%q): %q isn't decomposed", s, text)
	}
	down, up := normal.Text(p, s, false), normal.Text(p, s, true)
	if text != down && !slices.ContainsFunc(points.Of(down), func(r rune) bool { return !slices.Equal(p.Fold(r), []rune{r}) }) {
		t.Fatalf("Fold(%q): %q, and nothing in it has a fold", s, text)
	}
	for _, form := range []string{down, up} {
		if got, _ := fold.Fold(p, form); got != text || !fold.Same(p, s, form) {
			t.Fatalf("of two forms %q is folded to %q, and %q to %q", s, text, form, got)
		}
	}
}

// problemOf is what is wrong with spots, by P8.3 and P8.6 alone.
func problemOf(s, text string, spots []api.Spot) string {
	made := plainUnits(text)
	if len(made) != len(spots) {
		return "there are " + strconv.Itoa(len(made)) + " units"
	}
	pieces := map[api.Range][]string{} // what is made of the bytes that are named
	for i, x := range spots {
		if x.At != made[i].from {
			return "no unit begins at " + strconv.Itoa(x.At)
		}
		bytes := api.Range{From: x.From, To: x.To}
		pieces[bytes] = append(pieces[bytes], text[made[i].from:made[i].to])
	}
	for _, x := range plainUnits(s) {
		bytes := api.Range{From: x.from, To: x.to}
		made, ill := pieces[bytes], x.point > utf8.MaxRune
		switch {
		case len(made) == 0:
			return "a unit is not named"
		case ill && !slices.Equal(made, []string{s[x.from:x.to]}):
			return "an ill-formed byte doesn't stay itself, or is named twice"
		case !ill && slices.ContainsFunc(made, func(piece string) bool { return !utf8.ValidString(piece) }):
			return "a character became an ill-formed byte"
		}
		delete(pieces, bytes)
	}
	if len(pieces) > 0 {
		return "bytes are named that are no unit"
	}
	return ""
}

// samples are properties, and pieces of texts that mean something by them.
var samples = []struct {
	file   string
	pieces []string
}{
	{file, []string{"A", "a", "B", "S", "\u00c0", "\u00e0", "\u1ea6", "\u0300", "\u0302", "\u0327", "\xcc", "\x80"}},
	{people, []string{"A", "\u00c5", "\u212b", "\u00df", "s", "\u017f", "\u1e69", "\u1e9b", "\u0307", "\u0323", "\u1f88", "\u0345"}},
	{odd, oddPieces},
	{"", []string{"A", "\u00e9", "\u20ac", "\U0001f600", "\ufffd", "\uac01", "\u1100", "\u1161", "\xf0", "\x9f", "\x98", "\x80"}},
}

// P8.1, P8.3, P8.4, P8.6: all short texts, and longer ones by chance.
func TestAllTexts(t *testing.T) {
	for _, x := range samples {
		p := parsed(t, x.file)
		texts(x.pieces, 3, func(s string) { check(t, p, s) })
		c := chance(1)
		for n := range 1500 {
			check(t, p, c.text(append(slices.Clone(x.pieces), oddPieces...), n%40))
		}
		for n := range 1500 {
			b := make([]byte, n%30)
			for i := range b {
				b[i] = "AaS\x00\xcc\x80\xa7\xc3\xe1\xba\xa6\xff\xed\xa0\xea\xb0"[c.below(16)]
			}
			check(t, p, string(b))
		}
	}
}

// P8.4: a text without points that have a fold of their own is decomposed alone, be there lines of folds or not.
func TestNoFolds(t *testing.T) {
	p := parsed(t, "class 0300..0304 230\nclass 0327 202\ndecomp 00C0 0041 0300\ndecomp 1EA6 00C0 0301\n")
	q := parsed(t, "class 0300..0304 230\nclass 0327 202\ndecomp 00C0 0041 0300\ndecomp 1EA6 00C0 0301\nfold 0042 0043\nfold 00C0 0042\nfold AC01 0042\nfold 0043 0043\n")
	texts([]string{"A", "C", "\u00c0", "\u1ea6", "\u0301", "\u0327", "\uac01", "\xcc"}, 4, func(s string) {
		want := normal.Text(p, s, false)
		for _, properties := range []*props.Props{p, q} { // Those of C0 and AC01 are never asked for, that of 43 leads to itself.
			if got, _ := fold.Fold(properties, s); got != want {
				t.Fatalf("Fold(%q): %q, want %q", s, got, want)
			}
		}
	})
}

// P8.4: texts with the same decomposed points have one folded text.
func TestForms(t *testing.T) {
	p := parsed(t, people)
	for want, forms := range map[string][]string{
		"a\u030a":                  {"\u212b", "\u00c5", "A\u030a", "a\u030a"},
		"s\u0323\u0307":            {"\u1e69", "\u1e63\u0307", "s\u0323\u0307", "s\u0307\u0323", "\u1e9b\u0323", "\u017f\u0323\u0307"},
		"\u03b1\u0313\u0301\u03b9": {"\u1f88\u0301", "\u0391\u0345\u0313\u0301", "\u1f08\u0345\u0301", "\u1f08\u0301\u0345", "\u0391\u0313\u0345\u0301"},
	} {
		for _, s := range forms {
			if got, _ := fold.Fold(p, s); got != want {
				t.Errorf("Fold(%q): %q, want %q", s, got, want)
			}
			check(t, p, s)
		}
	}
	for _, x := range samples {
		p, known := parsed(t, x.file), map[string]string{}
		texts(x.pieces, 3, func(s string) {
			down := normal.Text(p, s, false)
			got, _ := fold.Fold(p, s)
			if want, ok := known[down]; ok && got != want {
				t.Fatalf("Fold(%q): %q, and of another text with these points %q", s, got, want)
			}
			known[down] = got
		})
	}
}

// behind is what is folded of two texts, one behind the other, if it is what is folded of each.
func behind(p *props.Props, a, b string) (string, []api.Spot) {
	text, spots := fold.Fold(p, a)
	more, moreSpots := fold.Fold(p, b)
	for _, x := range moreSpots {
		spots = append(spots, api.Spot{At: len(text) + x.At, From: len(a) + x.From, To: len(a) + x.To})
	}
	return text + more, spots
}

// apart tells whether P8.5 speaks of two texts.
func apart(p *props.Props, a, b string) bool {
	if !slices.Equal(points.Of(a+b), append(points.Of(a), points.Of(b)...)) {
		return false
	}
	text, _ := fold.Fold(p, b)
	return b == "" || p.Class(points.Of(normal.Text(p, b, false))[0]) == 0 && p.Class(points.Of(text)[0]) == 0
}

// P8.5: all short texts one behind the other.
func TestBehind(t *testing.T) {
	for _, x := range samples {
		p := parsed(t, x.file)
		var short []string
		texts(x.pieces, 2, func(s string) { short = append(short, s) })
		c := chance(5)
		joined := 0
		for _, b := range short {
			for range 60 {
				a := short[c.below(len(short))]
				text, spots := fold.Fold(p, a+b)
				wantText, wantSpots := behind(p, a, b)
				same := text == wantText && slices.Equal(spots, wantSpots)
				if !same {
					joined++
				}
				if !same && apart(p, a, b) {
					t.Fatalf("Fold(%q) is %q %s, but behind one another %q and %q come to %q %s", a+b, text, told(spots), a, b, wantText, told(wantSpots))
				}
			}
		}
		if joined == 0 {
			t.Errorf("no two texts are joined, by the properties %.20q", x.file)
		}
	}
}

// P8.5: where the second text begins with a mark, and where it doesn't; where bytes of both make up a unit.
func TestBehindMarks(t *testing.T) {
	p, q := parsed(t, file), parsed(t, "class 0031 1\nclass 0032 2\nfold 0031 0030\nfold 0062 0031\n")
	for _, x := range []struct {
		p    *props.Props
		a, b string
		want bool
	}{
		{p, "", "", true}, {p, "A", "", true}, {p, "", "A", true}, {p, "", "\u0300", false},
		{p, "AS", "SA", true}, {p, "\u00c0\u0301", "\u00c5", true}, {p, "\u0301", "\u0302", true}, {p, "\uac00", "\u11a8", true},
		{p, "\u0301", "\xff\u0327", true}, {p, "\xc3", "A", true}, {p, "\xff", "\xff", true},
		{p, "A\u0301", "\u0327", false}, {p, "\u0301", "a", false}, {p, "\u0327", "a", false},
		{p, "\xcc", "\xa7", false}, {p, "\u0301\xcc", "\xa7", false},
		{q, "2", "1", false}, {q, "2", "b", false}, // one of both is a mark ahead of its fold, one behind it
		{q, "1", "01", true},
	} {
		if got := apart(x.p, x.a, x.b); got != x.want {
			t.Fatalf("the test itself is wrong of %q and %q", x.a, x.b)
		}
		text, spots := fold.Fold(x.p, x.a+x.b)
		wantText, wantSpots := behind(x.p, x.a, x.b)
		if x.want && (text != wantText || !slices.Equal(spots, wantSpots)) {
			t.Errorf("Fold(%q): %q %s, and of its pieces %q %s", x.a+x.b, text, told(spots), wantText, told(wantSpots))
		}
		check(t, x.p, x.a+x.b)
	}
	holds(t, p, []folds{
		{"A\u0301" + "\u0327", "a\u0327\u0301", "0:0-1 1:3-5 3:1-3"},
		{"\u0304A\u0301" + "S\u0327", "\u0304a\u0301ss\u0327", "0:0-2 2:2-3 3:3-5 5:5-6 6:5-6 7:6-8"},
		{"B\xcc" + "\xa7", "B\u0327", "0:0-1 1:1-3"},
	})
	holds(t, q, []folds{
		{"2" + "1", "02", "0:1-2 1:0-1"},
		{"2" + "b", "12", "0:1-2 1:0-1"},
	})
}
