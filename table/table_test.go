package table_test

import (
	"errors"
	"slices"
	"strings"
	"sync"
	"testing"

	"glossary/api"
	"glossary/order"
	"glossary/points"
	"glossary/props"
	"glossary/rules"
	"glossary/table"
	"glossary/weights"
)

// The calls have the signatures that the chapter lists.
var (
	_ func(*props.Props, api.Rules) (*table.Table, error)   = table.New
	_ func(*table.Table) *props.Props                       = (*table.Table).Props
	_ func(*table.Table) api.Options                        = (*table.Table).Options
	_ func(*table.Table, string) ([]api.Weight, bool)       = (*table.Table).Of
	_ func(*table.Table, []rune, int) ([]api.Weight, []int) = (*table.Table).Match
	_ func(*table.Table, api.Weight) bool                   = (*table.Table).Variable
)

// file is chapter 6's file F, with the further marks of chapter 13, one of a class above theirs, and points that decompose to one and to many.
const file = "class 0300..0304 230\nclass 0327 202 # below\nclass 0302 0\nkind 0041..005A letter\nfold 0041 0061\ndecomp 00C0 0041 0300\ndecomp 1EA6 00C0 0301\ndecomp 00C5 0041 0300\n" +
	"class 0308 230\nclass 0323 220\nclass 0345 240\ndecomp 00E4 0061 0308\ndecomp 2126 03A9\ndecomp 0344 0308 0301\ndecomp 0132 0031 0032 0033 0034 0035 0036 0037 0038\n"

// parsed are the properties of a file that is right.
func parsed(t *testing.T, s string) *props.Props {
	t.Helper()
	p, e := props.Parse(s)
	if e != nil {
		t.Fatalf("Parse(%.200q): %v", s, e)
	}
	return p
}

// read are rules as a file tells them.
func read(t *testing.T, s string) api.Rules {
	t.Helper()
	r, e := rules.Parse(s)
	if e != nil {
		t.Fatalf("Parse(%.200q): %v", s, e)
	}
	return r
}

// of are rules of these items.
func of(items ...api.Rule) api.Rules {
	return api.Rules{Options: api.Options{Strength: 3}, Items: items}
}

func reset(text string) api.Rule   { return api.Rule{Kind: api.RReset, Text: text, Line: 1} }
func anchored(anchor int) api.Rule { return api.Rule{Kind: api.RReset, Anchor: anchor, Line: 1} }
func relation(level int, text, extend string) api.Rule {
	return api.Rule{Kind: api.RRelation, Level: level, Text: text, Extend: extend, Line: 1}
}

// second is the second way of rules that are right.
func second(t *testing.T, p *props.Props, r api.Rules) collator {
	t.Helper()
	o, e := order.Build(p, r)
	if e != nil {
		t.Fatalf("Build(%v): %v", r.Items, e)
	}
	return collator{p, o, r.Variable}
}

// tabled is the table of rules that are right.
func tabled(t *testing.T, p *props.Props, r api.Rules) *table.Table {
	t.Helper()
	x, e := table.New(p, r)
	if e != nil || x == nil {
		t.Fatalf("New(%v): %v %v", r.Items, x, e)
	}
	return x
}

// both are the table of a file of rules, and the second way to it.
func both(t *testing.T, s string) (*table.Table, collator) {
	t.Helper()
	p, r := parsed(t, file), read(t, s)
	return tabled(t, p, r), second(t, p, r)
}

// weigh are the weights of texts that have seats, one behind the other.
func (c collator) weigh(t *testing.T, texts ...string) []api.Weight {
	t.Helper()
	var all []api.Weight
	for _, s := range texts {
		w, ok := weights.Of(c.order, s)
		if !ok {
			t.Fatalf("%q has no seat", s)
		}
		all = append(all, w)
	}
	return all
}

// tells holds Of of a text with a seat against the weights of these texts.
func tells(t *testing.T, x *table.Table, c collator, text string, want ...string) {
	t.Helper()
	if l, ok := x.Of(text); !ok || !slices.Equal(l, c.weigh(t, want...)) {
		t.Errorf("Of(%q): %v %v, want those of %q", text, l, ok, want)
	}
}

// lacks holds Of of a text without a seat.
func lacks(t *testing.T, x *table.Table, text string) {
	t.Helper()
	if l, ok := x.Of(text); ok || len(l) != 0 {
		t.Errorf("Of(%.80q): %v %v", text, l, ok)
	}
}

// ofAlike holds Of against the second way.
func ofAlike(t *testing.T, x *table.Table, c collator, text string) {
	t.Helper()
	l, ok := x.Of(text)
	if want, has := c.of(text); ok != has || !slices.Equal(l, want) {
		t.Fatalf("Of(%.80q): %v %v, want %v %v", text, l, ok, want, has)
	}
}

// letters are rows as the chapter writes them.
var letters = []rune{'c', 'h', 'x', 0x61, 0x323, 0x308, 0x300}

// example are the rules of the chapter's examples.
const example = "& c < ch <<< Ch / h\n& z < \u00e4"

// P13.2: the chapter's examples.
func TestOfExamples(t *testing.T) {
	x, c := both(t, example)
	tells(t, x, c, "ch", "ch")
	tells(t, x, c, "Ch", "Ch", "h")
	tells(t, x, c, "\u00e4", "\u00e4")
	tells(t, x, c, "c", "c")
	lacks(t, x, "xy")
}

// P13.3: the chapter's examples.
func TestMatchExamples(t *testing.T) {
	x, c := both(t, example)
	for _, y := range []struct {
		l      []rune
		at     int
		text   string
		places []int
	}{
		{[]rune("chx"), 0, "ch", []int{0, 1}},
		{[]rune("chx"), 1, "h", []int{1}},
		{[]rune("cxh"), 0, "c", []int{0}},
		{[]rune{0x61, 0x323, 0x308}, 0, "\u00e4", []int{0, 2}},
		{[]rune{0x61, 0x308, 0x323}, 0, "\u00e4", []int{0, 1}},
		{[]rune{0x61, 0x308, 0x308}, 0, "\u00e4", []int{0, 1}},
		{[]rune{0x61, 'x', 0x308}, 0, "a", []int{0}},
		{[]rune{0x61, 0x300, 0x308}, 0, "a", []int{0}},
	} {
		if l, places := x.Match(y.l, y.at); !slices.Equal(l, c.weigh(t, y.text)) || !slices.Equal(places, y.places) {
			t.Errorf("Match(%x, %d): %v %v", y.l, y.at, l, places)
		}
	}
	for n := range len(letters) + 1 {
		matchesNone(t, x, letters[:n], -1)
		matchesNone(t, x, letters[:n], n)
	}
}

// P13.1, P13.4: the chapter's examples of what may be shifted.
func TestVariableExamples(t *testing.T) {
	p, r := parsed(t, file), read(t, example)
	r.Variable = []string{"xy"}
	refuses(t, p, r, api.ErrNone)
	r.Variable = []string{"\u00e4"}
	x, c := tabled(t, p, r), second(t, p, r)
	if !x.Variable(c.weigh(t, "\u00e4")[0]) || x.Variable(c.weigh(t, "a")[0]) {
		t.Error("Variable")
	}
}

// P13.1: properties and options are told as they were handed in.
func TestHandedIn(t *testing.T) {
	for _, s := range []string{"", file} {
		p := parsed(t, s)
		for i := range 20 {
			r := read(t, "& a < b & [variable] = c")
			r.Options = api.Options{Strength: 1 + i%5, Shifted: i/5%2 == 1, Back: i/10 == 1}
			x := tabled(t, p, r)
			if x.Props() != p || x.Options() != r.Options {
				t.Errorf("%p %v, want %p %v", x.Props(), x.Options(), p, r.Options)
			}
			x.Options() // asked again, it is the same
			if x.Match([]rune("ab"), 0); x.Props() != p || x.Options() != r.Options {
				t.Error("asked again")
			}
		}
	}
}

// P13.2: texts with a seat: as rules have put them, as they are at first, ignored, ill-formed.
func TestOf(t *testing.T) {
	x, c := both(t, `& a < ch << C\u{300} <<< x\u{327}\u{301} / q = \xff < \x80\xff / \xc3 & [ignored] << \u{301} = '-' & [last] < e & [first] < 12345678`)
	for _, s := range []string{"a", "b", "ch", "C\u0300", "x\u0327\u0301", "x\u0301\u0327", "\xff", "-", "\u0301", "e", "12345678", "\u0132",
		"\x00", "h", "\u0300", "\u0308", "\U0010ffff", "\x80", "\xc3", "\ufffd", "\u1100", "\u03a9", "\u2126"} {
		if l, ok := x.Of(s); !ok || len(l) == 0 || l[0] != c.weigh(t, s)[0] {
			t.Errorf("Of(%q): %v %v", s, l, ok)
		}
		ofAlike(t, x, c, s)
	}
	tells(t, x, c, "x\u0301\u0327", "x\u0327\u0301", "q")
	tells(t, x, c, "\x80\xff", "\x80\xff", "\xc3")
	tells(t, x, c, "\u2126", "\u03a9")
	if l, ok := x.Of("-"); !ok || !slices.Equal(l, []api.Weight{{Second: 33}}) && !slices.Equal(l, []api.Weight{{Second: 33, Third: 32}}) {
		t.Errorf("what is ignored: %v %v", l, ok)
	}
}

// P13.2: texts without one.
func TestOfNone(t *testing.T) {
	x, _ := both(t, `& a < ch <<< x\u{327}\u{301} / q < \x80\xff < \xc3`)
	for _, s := range []string{
		"", "c\x00", "hc", "cha", "ac", "cc", "aa", "x\u0327", "x\u0301", "\u0327\u0301", "x\u0327\u0301\u0301", "\u00c0", "\u00c5", "A\u0300", "\u1ea6", "\u00e4", "\uac00", "\uac01", "\u1100\u1161",
		"\xff\x80", "\xff\xff", "\xc3\xff", "\xe2\x82", "\xed\xa0\x80", "a\xff", "\x80\xff\x80", "\u0132", "12345678", "123456789",
		strings.Repeat("a", 8), strings.Repeat("a", 9), strings.Repeat("\U0010ffff", 8), strings.Repeat("\U0010ffff", 9), strings.Repeat("ch", 1<<20), strings.Repeat("\xff", 33), "ch" + strings.Repeat("\x00", 40),
	} {
		lacks(t, x, s)
	}
}

// P13.2: eight points of four bytes each are the longest text that may have a seat.
func TestOfLongest(t *testing.T) {
	for _, s := range []string{strings.Repeat("\U0010ffff", 8), strings.Repeat("\xff", 8), "\u0132", "aaaaaa\u00c0", "\u1ea6\u1ea6AA", "\uac01\uac01AA"} {
		r := of(reset("a"), relation(1, s, s[:1]))
		p := parsed(t, file)
		x, c := tabled(t, p, r), second(t, p, r)
		ofAlike(t, x, c, s)
		if l, ok := x.Of(s); !ok || len(l) != 2 {
			t.Errorf("Of(%q): %v %v", s, l, ok)
		}
		lacks(t, x, s+"a")
		lacks(t, x, s+s)
	}
}

// P13.2, P13.3: expansions hold what is taken in the Extend: the longest texts, marks that stand further behind, points without rules, and their expansions.
func TestExtends(t *testing.T) {
	for _, y := range []struct {
		file, text string
		want       []string
	}{
		{"& a < b / c", "b", []string{"b", "c"}},                                                                    // a point of which no rule speaks
		{"& a < b / cde", "b", []string{"b", "c", "d", "e"}},                                                        // some of them
		{"& a < b / ccc", "b", []string{"b", "c", "c", "c"}},                                                        // one of them often
		{"& a < ch & c < b / chch", "b", []string{"b", "ch", "ch"}},                                                 // contractions
		{"& c < b / hchc & a < ch", "b", []string{"b", "h", "ch", "c"}},                                             // of which a later rule speaks
		{"& a < ch < chh & c < b / chchh", "b", []string{"b", "ch", "chh"}},                                         // the longest one
		{"& a < ch / x & c < b / chy", "b", []string{"b", "ch", "x", "y"}},                                          // what is taken there has an Extend of its own
		{"& a < d / ef & a < c / d & a < b / cgc", "b", []string{"b", "c", "d", "e", "f", "g", "c", "d", "e", "f"}}, // and so on
		{"& a < b / c & a < c / d", "c", []string{"c", "d"}},                                                        // whichever rule comes first
		{"& a < b / c & a < c / d", "b", []string{"b", "c", "d"}},
		{"& a < b / ba & a < ba", "b", []string{"b", "ba"}},                                       // its own point within a longer text
		{"& z < \u00e4 & a < b / \u00e4", "b", []string{"b", "\u00e4"}},                           // a mark straight behind
		{"& z < \u00e4 & a < b / a\\u{323}\\u{308}", "b", []string{"b", "\u00e4", "\u0323"}},      // a mark further behind
		{"& z < \u00e4 & a < b / a\\u{308}\\u{323}", "b", []string{"b", "\u00e4", "\u0323"}},      // in the order of classes
		{"& z < \u00e4 & a < b / a\\u{301}\\u{308}", "b", []string{"b", "a", "\u0301", "\u0308"}}, // a mark that is blocked
		{"& z < \u00e4 & a < b / xa\\u{323}\\u{308}y", "b", []string{"b", "x", "\u00e4", "\u0323", "y"}},
		{"& z < \u00e4 & a < b / a\\u{323}\\u{308}\\u{308}a", "b", []string{"b", "\u00e4", "\u0323", "\u0308", "a"}},
		{"& z < \\u{323}h & z < \u00e4 & a < b / a\\u{323}\\u{308}h", "b", []string{"b", "\u00e4", "\u0323h"}}, // what is left comes to stand side by side
		{"& a < b / \\u{c0}", "b", []string{"b", "A", "\u0300"}},                                               // decomposed
		{"& a < b / \\u{2126}", "b", []string{"b", "\u03a9"}},
		{"& a < b / \\u{ac01}", "b", []string{"b", "\u1100", "\u1161", "\u11a8"}},
		{"& z < \\u{c0} & a < b / \\u{1ea6}", "b", []string{"b", "\u00c0", "\u0301"}},
		{"& a < b / \\xff\\xc3", "b", []string{"b", "\xff", "\xc3"}}, // ill-formed
		{"& a < \\xff\\xc3 & a < b / \\xff\\xc3\\xff", "b", []string{"b", "\xff\xc3", "\xff"}},
		{"& a < b / x", "b", []string{"b", "x"}},
		{"& [ignored] << x & a < b / axa", "b", []string{"b", "a", "x", "a"}}, // what is ignored is told, too
		{"& [ignored] << x / a", "x", []string{"x", "a"}},
		{"& [last] < ch / hh", "ch", []string{"ch", "h", "h"}},
		{"& a < b / c & a < b", "b", []string{"b"}}, // the last relation holds
		{"& a < b & a < b / c", "b", []string{"b", "c"}},
		{"& a < b / 12345678", "b", []string{"b", "1", "2", "3", "4", "5", "6", "7", "8"}},
		{"& a < 12345678 & a < b / 12345678", "b", []string{"b", "12345678"}},
		{"& a < 12345678 & a < b / 12345671", "b", []string{"b", "1", "2", "3", "4", "5", "6", "7", "1"}},
	} {
		x, c := both(t, y.file)
		tells(t, x, c, y.text, y.want...)
		row := points.Of(y.text)
		if l, places := x.Match(row, 0); !slices.Equal(l, c.weigh(t, y.want...)) || len(places) != len(row) {
			t.Errorf("%s: Match: %v %v", y.file, l, places)
		}
	}
}

// P13.4: whose First is that of a text that may be shifted; whatever the other numbers are.
func TestVariable(t *testing.T) {
	p := parsed(t, file)
	r := read(t, `& a < b << c <<< d = e < f / x & [ignored] << i <<< j & [last] < ll & [first] < g & z < ch & z < \u{c0} & [variable] = c = f = i = ll = g = ch = \u{c0} = q = \xff = \u{2126}`)
	r.Variable = append(r.Variable, "q", "q", "\u00c5", "A\u0300", "\u03a9")
	x, c := tabled(t, p, r), second(t, p, r)
	for s, want := range map[string]bool{
		"a": false, "b": true, "c": true, "d": true, "e": true, "f": true, "x": false, // b to e have one First
		"i": false, "j": false, "ll": true, "l": false, "g": true, "z": false, "ch": true, "\u00c0": true, "A": false, "\u0300": false,
		"q": true, "r": false, "\xff": true, "\xfe": false, "\u03a9": true, "\x00": false,
	} {
		w := c.weigh(t, s)[0]
		for _, more := range []api.Weight{w, {First: w.First}, {First: w.First, Second: 77, Third: 1 << 31}, {Second: w.Second, Third: w.Third}} {
			ok := want && more.First != 0
			if got := x.Variable(more); got != ok || got != c.shifted(more) {
				t.Errorf("Variable(%v) of %q: %v", more, s, got)
			}
		}
	}
	for _, n := range []uint64{0, 1, 2, 1 << 20, 1<<64 - 1, c.weigh(t, "q")[0].First + 1, c.weigh(t, "q")[0].First - 1, c.weigh(t, "q")[0].First + 1<<32} {
		if w := (api.Weight{First: n, Second: 32, Third: 32}); x.Variable(w) {
			t.Errorf("Variable(%v)", w)
		}
	}
	r.Options.Shifted = true // it hangs on the texts alone
	if y := tabled(t, p, r); !y.Variable(c.weigh(t, "q")[0]) || y.Variable(c.weigh(t, "r")[0]) {
		t.Error("with the option")
	}
}

// P13.4: where no text may be shifted, or but such as weigh nothing.
func TestVariableOfNone(t *testing.T) {
	for _, s := range []string{"", "& a < b", "& [ignored] << x <<< y & [variable] = x = y"} {
		x, c := both(t, s)
		for _, w := range append(c.weigh(t, "a", "b", "x", "y", "\x00", "\xff"), api.Weight{}, api.Weight{First: 1}, api.Weight{First: 1<<64 - 1, Second: 32, Third: 32}) {
			if x.Variable(w) {
				t.Errorf("%s: Variable(%v)", s, w)
			}
		}
	}
}

// R4: what was handed in and what was handed out may be changed; what is handed in isn't, its spare room included.
func TestMemory(t *testing.T) {
	p, r := parsed(t, file), read(t, example+" & a < b / chq & [variable] = q")
	c := second(t, p, r)
	x := tabled(t, p, r)
	items, variable := slices.Clone(r.Items), slices.Clone(r.Variable)
	if tabled(t, p, r); !slices.Equal(items, r.Items) || !slices.Equal(variable, r.Variable) {
		t.Error("rules were changed")
	}
	clear(r.Items)
	clear(r.Variable)
	r.Options = api.Options{}
	all := []rune{0x61, 0x323, 0x308, 'b', 'c', 'h', 'x', 'y', 0x61, 0x308}
	kept := slices.Clone(all)
	for range 2 {
		for n := range len(all) {
			for at := range n {
				want, wanted := c.match(kept[:n], at)
				l, places := x.Match(all[:n], at)
				if !slices.Equal(l, want) || !slices.Equal(places, wanted) || !slices.Equal(all, kept) {
					t.Fatalf("Match(%x, %d): %v %v, and the row is %x", kept[:n], at, l, places, all)
				}
				spoil(l, api.Weight{First: 9})
				spoil(places, 99)
			}
		}
		for _, s := range []string{"b", "q", "ch", "Ch", "\u00e4"} {
			ofAlike(t, x, c, s)
			l, _ := x.Of(s)
			spoil(l, api.Weight{First: 9})
		}
		if o := (api.Options{Strength: 3}); !x.Variable(c.weigh(t, "q")[0]) || x.Variable(c.weigh(t, "b")[0]) || x.Options() != o {
			t.Error("Variable, Options")
		}
	}
}

// spoil writes over a list that was handed out, and over its spare room.
func spoil[E any](l []E, with E) {
	for i := range l[:cap(l)] {
		l[:cap(l)][i] = with
	}
}

// R5: a table may be asked by many at a time, and tables of unlike rules are two.
func TestTogether(t *testing.T) {
	x, c := both(t, example+" & a < b / chq & [variable] = q")
	y, d := both(t, "& q < b / hc & [variable] = c")
	row := []rune{0x61, 0x323, 0x308, 'b', 'c', 'h', 'C', 'h'}
	var all sync.WaitGroup
	for range 8 {
		all.Go(func() {
			for at := range row {
				for _, z := range []struct {
					x *table.Table
					c collator
				}{{x, c}, {y, d}} {
					want, wanted := z.c.match(row, at)
					if l, places := z.x.Match(row, at); !slices.Equal(l, want) || !slices.Equal(places, wanted) {
						t.Errorf("Match(%x, %d): %v %v", row, at, l, places)
					}
				}
			}
			if w, v := c.weigh(t, "q")[0], d.weigh(t, "c")[0]; !x.Variable(w) || x.Variable(v) || y.Variable(w) || !y.Variable(v) {
				t.Error("Variable")
			}
		})
	}
	all.Wait()
}

// refuses holds what New answers of rules with which something is wrong that has no place.
func refuses(t *testing.T, p *props.Props, r api.Rules, no api.Errno) {
	t.Helper()
	x, e := table.New(p, r)
	var f api.Fault
	if x != nil || e == nil || errors.As(e, &f) {
		t.Errorf("New(%.200v): %v %v, want %v", r, x, e, no)
		return
	}
	for n := api.OK; n <= api.ErrBracket; n++ {
		if errors.Is(e, n) != (n == no) {
			t.Errorf("New(%.200v): %v, want %v", r, e, no)
		}
	}
}
