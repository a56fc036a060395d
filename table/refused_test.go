package table_test

import (
	"errors"
	"slices"
	"strings"
	"testing"

	"glossary/api"
	"glossary/order"
	"glossary/table"
)

// located holds New against what is wrong with an order, its place among it.
func located(t *testing.T, r api.Rules, no api.Errno, line int) {
	t.Helper()
	p := parsed(t, file)
	o, wrong := order.Build(p, r)
	x, e := table.New(p, r)
	var f api.Fault
	if x != nil || o != nil || !errors.As(e, &f) || f != (api.Fault{No: no, Line: line}) || !errors.Is(e, no) || e != wrong {
		t.Errorf("New(%.200v): %v %v, want %v at %d; Build: %v", r, x, e, no, line, wrong)
	}
}

// lined is an item on another line.
func lined(line int, x api.Rule) api.Rule {
	x.Line = line
	return x
}

// P13.1: what is wrong with an order is told with its place, ahead of all else.
func TestOrderRefused(t *testing.T) {
	ring := []api.Rule{reset("a"), relation(1, "q", "q"), reset("a"), relation(1, "m", "12345678"), relation(1, "n", "mmmmmmmm")}
	for _, x := range []struct {
		no   api.Errno
		item api.Rule
	}{
		{api.ErrArg, api.Rule{Kind: 7}},
		{api.ErrArg, api.Rule{Kind: api.RReset, Anchor: 9}},
		{api.ErrArg, relation(1, "n", "")}, // the anchor's own text
		{api.ErrShort, reset("")},
		{api.ErrShort, relation(1, "", "")},
		{api.ErrMany, reset(strings.Repeat("x", 9))},
		{api.ErrMany, relation(1, "x", strings.Repeat("x", 9))},
		{api.ErrReset, reset("xy")},
		{api.ErrLevel, relation(5, "x", "")},
	} {
		for _, variable := range [][]string{nil, {"a"}, {"xy"}, {""}} {
			r := of(append(ring[:len(ring):len(ring)], lined(77, x.item))...)
			r.Variable = variable
			located(t, r, x.no, 77)
			r.Items = append(r.Items, lined(78, reset("")))
			located(t, r, x.no, 77)
		}
	}
	r := of(lined(5, relation(1, "a", "")))
	r.Variable = []string{"xy"}
	located(t, r, api.ErrReset, 5)
	r.Options.Strength = 6
	located(t, r, api.ErrOption, 0)
	r = of(slices.Repeat([]api.Rule{reset("a")}, api.MaxRules+1)...)
	located(t, r, api.ErrMany, 0)
	r.Options.Strength = 0
	located(t, r, api.ErrOption, 0)
	located(t, api.Rules{}, api.ErrOption, 0)
}

// P13.1: texts that may be shifted and have no seat, wherever they stand among others, ahead of rings and of what is too long.
func TestVariableRefused(t *testing.T) {
	p := parsed(t, file)
	items := []api.Rule{reset("a"), relation(1, "ch", ""), relation(2, "A\u0301", "q"), reset("z"), relation(1, "\xff\xfe", "")}
	for _, s := range []string{"", "xy", "cha", "A\u0300", "\u00c0", "\u1ea6", "A\u0301\u0301", "\uac00", "\xfe\xff", "\xff\xfe\xff", "aa", strings.Repeat("a", 8), strings.Repeat("a", 9), strings.Repeat("ch", 1<<19), "\x00\x00"} {
		for _, variable := range [][]string{{s}, {s, "a"}, {"a", s}, {"a", s, "b"}, {s, s}, {"xy", s}} {
			r := of(items...)
			r.Variable = variable
			refuses(t, p, r, api.ErrNone)
			r.Items = append(r.Items, relation(1, "q", "q"))
			refuses(t, p, r, api.ErrNone)
			r.Items = append(items[:len(items):len(items)], relation(1, "m", "12345678"), relation(1, "n", "mmmmmmmm"))
			refuses(t, p, r, api.ErrNone)
		}
	}
	r := of(items...)
	r.Variable = []string{"a", "ch", "A\u0301", "\xff\xfe", "\u2126", "\u03a9", "z", "\x00", "\U0010ffff", "\x80", "\ufffd", "a"}
	tabled(t, p, r)
	r.Variable = slices.Repeat([]string{"\u2126"}, 5000)
	tabled(t, p, r)
}

// P13.1: seats that lead to themselves, by one step and by several.
func TestLoop(t *testing.T) {
	p := parsed(t, file)
	for _, s := range []string{
		"& a < b / b",
		"& a < b / cdb", // behind others
		"& a < b / bcd", // ahead of them
		"& a << a\\u{301} / a\\u{301}",
		"& a < ch / ch",
		"& a < ch / xchy",
		"& a < b / c & c < d / b & x < c / b", // the chapter's
		"& a < b / c & a < c / b",
		"& a < c / b & a < b / c",
		"& a < b / c & a < c / d & a < d / b",
		"& a < b / c & a < c / d & a < d / e & a < e / f & a < f / b",
		"& a < b / c & a < c / d & a < d / c",    // b leads into it, and isn't in it
		"& a < b / xc & a < c / xd & a < d / xb", // each behind something else
		"& a < b / cc & a < c / dd & a < d / ce",
		"& a < e / f & a < b / c & x < y / ec & a < c / b",               // one among others that lead nowhere
		"& a < b / ch & a < ch / b",                                      // by a longer text
		"& a < b / a\\u{323}\\u{308} & a < \\u{e4} / b",                  // by a mark that stands further behind
		"& a < b / a\\u{323}\\u{308}h & a < \\u{323}h / b & a < \\u{e4}", // by what is left
		"& a < b / \\u{2126} & a < \\u{3a9} / b",                         // by a decomposed text
		"& a < \\u{c0} / \\u{1ea6}",
		"& a < \\xff / \\xff",
		"& a < \\xff / \\xc3\\xff & a < b",
		"& [ignored] << x / x",
		"& [first] < x / y & [last] < y / x",
		"& a < b / b & a < m / 12345678 & a < n / mmmmmmmm", // ahead of ErrMany
		"& a < m / 12345678 & a < n / mmmmmmmm & a < b / b",
		"& a < m / 12345678 & a < n / mmmmmmmm & a < b / c & a < c / nb",
	} {
		r := read(t, s)
		refuses(t, p, r, api.ErrLoop)
		if c := second(t, p, r); c.wrong() != api.ErrLoop {
			t.Errorf("%s: the second way: %v", s, c.wrong())
		}
	}
}

// P13.1: what looks like a ring, and is none.
func TestNoLoop(t *testing.T) {
	p := parsed(t, file)
	for _, s := range []string{
		"& a < b / c & c < d / b", // the chapter's
		"& a < b / c & c < b",     // the Extend is gone
		"& a < b / b & a < b / c",
		"& a < b / b & a < b",
		"& a < b / bh & a < bh", // a longer text is taken
		"& a < b / ch & a < c / b & a < ch",
		"& a < ch / c & a < c / hh", // its points, but not all of them
		"& a < ch / ca & a < c / h",
		"& a < ch / chh & a < chh",
		"& a < \\u{e4} / a\\u{301}\\u{308}", // blocked
		"& a < \\u{e4} / ax\\u{308}",
		"& a < \\u{c0} / A",
		"& a < A / \\u{c0} & a < \\u{c0}",
		"& a < b / cc & a < c / dd & x < d / ee", // the same ones on many ways
		"& a < b / cde & a < c / de & a < d / e",
		"& b << a / b & c << d / b",
		"& a < \\xc3 / \\u{e9} & a < b / \\xc3",
	} {
		r := read(t, s)
		x := tabled(t, p, r)
		c := second(t, p, r)
		if c.wrong() != api.OK {
			t.Errorf("%s: the second way: %v", s, c.wrong())
		}
		for _, seat := range c.touched() {
			ofAlike(t, x, c, seat.Text)
		}
	}
}

// letter is the text of which the rule with that number speaks.
func letter(i int) string { return string(rune(0x4e00 + i)) }

// chain are rules in which the text of each leads to that of the one behind; the last one to last.
func chain(n int, last string) api.Rules {
	items := []api.Rule{reset("a")}
	for i := range n - 1 {
		items = append(items, relation(1+i%3, letter(i), letter(i+1)))
	}
	return of(append(items, relation(1, letter(n-1), last))...)
}

// P13.1: the longest ring that there may be, and ways as long as expansions may be and longer.
func TestLongWays(t *testing.T) {
	p := parsed(t, file)
	n := api.MaxRules - 1
	refuses(t, p, chain(n, letter(0)), api.ErrLoop)
	refuses(t, p, chain(100, letter(98)), api.ErrLoop)
	refuses(t, p, chain(100, letter(99)), api.ErrLoop)
	refuses(t, p, chain(n, "b"), api.ErrMany)
	refuses(t, p, chain(api.MaxElements, "b"), api.ErrMany)
	x := tabled(t, p, chain(api.MaxElements-1, "b"))
	c := second(t, p, chain(api.MaxElements-1, "b"))
	for i := range api.MaxElements - 1 {
		if l, ok := x.Of(letter(i)); !ok || len(l) != api.MaxElements-i {
			t.Errorf("number %d: %d weights", i, len(l))
		}
		ofAlike(t, x, c, letter(i))
	}
}

// P13.1: expansions of just MaxElements weights, and of one more.
func TestMaxElements(t *testing.T) {
	p := parsed(t, file)
	for _, x := range []struct {
		s  string
		no api.Errno
	}{
		{"& a < m / 12345678 & a < n / mmmmmmm", api.OK},       // 1 and 7 times 9: 64
		{"& a < m / 1234567 & a < n / mmmmmmmm", api.ErrMany},  // 1 and 8 times 8: 65
		{"& a < m / 1234567 & a < n / mmmmmmm1", api.OK},       // 58
		{"& a < m / 12345678 & a < n / mmmmmmm1", api.ErrMany}, // 65
		{"& a < n / mmmmmmm & a < m / 12345678", api.OK},       // in the other order
		{"& a < n / mmmmmmm1 & a < m / 12345678", api.ErrMany},
		{"& a < m / 12345678 & a < n / mmmmmmm & a < o / n", api.ErrMany},                    // 65, of one point of Extend
		{"& a < m / 12345678 & a < n / mmmmmm & a < o / n & a < q / o1234567", api.OK},       // 55, 56, 64
		{"& a < m / 12345678 & a < n / mmmmmm & a < o / n1 & a < q / o1234567", api.ErrMany}, // 55, 57, 65
		{"& [ignored] << 1 <<< 2 & a < m / 12121212 & a < n / mmmmmmmm", api.ErrMany},        // what weighs nothing counts
		{"& a < 12345678 & a < m / 12345678 & a < n / mmmmmmmm", api.OK},                     // a longer text is one
		{"& a < n / mmmmmmmm & a < m / 12345678 & a < n", api.OK},                            // its Extend is gone
		{"& a < o / nnnnnnnn & a < n / mmmmmmmm & a < m / llllllll & a < l / kkkkkkkk", api.ErrMany},
	} {
		r := read(t, x.s)
		c := second(t, p, r)
		if no := c.wrong(); no != x.no {
			t.Errorf("%s: the second way: %v, want %v", x.s, no, x.no)
		}
		if x.no != api.OK {
			refuses(t, p, r, x.no)
			continue
		}
		y := tabled(t, p, r)
		for _, seat := range c.touched() {
			ofAlike(t, y, c, seat.Text)
		}
	}
}

// P13.1: expansions that would be greater than any number: they are refused in time.
func TestFarTooMany(t *testing.T) {
	p := parsed(t, file)
	items := []api.Rule{reset("a")}
	for i := range api.MaxRules - 1 {
		items = append(items, relation(1, letter(i), strings.Repeat(letter(i+1), 8)))
	}
	refuses(t, p, of(items...), api.ErrMany)
	items[len(items)-1].Extend = "aaaaaaa" + letter(0)
	refuses(t, p, of(items...), api.ErrLoop)
	for n := 2; n <= api.MaxPiece; n++ { // in numbers of 64 bits they would go round, to any number
		items = []api.Rule{reset("a")}
		for i := range 140 {
			items = append(items, relation(1, letter(i), strings.Repeat(letter(i+1), n)))
		}
		refuses(t, p, of(items...), api.ErrMany)
	}
}
