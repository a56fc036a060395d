package rules_test

import (
	"errors"
	"slices"
	"strings"
	"testing"

	"glossary/api"
	"glossary/rules"
)

// usual are rules of the usual options, with these items.
func usual(items ...api.Rule) api.Rules {
	return api.Rules{Options: api.Options{Strength: 3}, Items: items}
}

// notPrinted checks that an answer is an error of this number, without a place, and nothing else.
func notPrinted(t *testing.T, r api.Rules, no api.Errno) {
	t.Helper()
	s, e := rules.Print(r)
	var f api.Fault
	if s != "" || !numbered(e, no) || errors.As(e, &f) {
		t.Fatalf("Print(%.300v): %.100q, %#v; want %v", r, s, e, no)
	}
}

// checkPrint stops the test at the first rules of which something is told that is wrong, held against the second way.
func checkPrint(t *testing.T, r api.Rules) {
	t.Helper()
	want, no := formOf(r)
	if no != api.OK {
		notPrinted(t, r, no)
		return
	}
	if s, e := rules.Print(r); e != nil || s != want {
		t.Fatalf("Print(%+v): %q, %v; want %q", r, s, e, want)
	}
}

// prints checks that rules have a form, and come back from it.
func prints(t *testing.T, r api.Rules, want string) {
	t.Helper()
	if s, e := rules.Print(r); e != nil || s != want {
		t.Errorf("Print(%+v): %q, %v; want %q", r, s, e, want)
	}
	checkPrint(t, r)
	comesBack(t, r)
}

// P10.4: the chapter's example, each option and none, texts of Variable, items of each kind.
func TestPrint(t *testing.T) {
	prints(t, usual(reset("a"), relation(1, "b"), extended(3, "B", "c"), relation(4, "x y")), "& a < b <<< B / c = x\\u{20}y\n")
	prints(t, usual(), "")
	for strength, line := range []string{1: "[strength 1]\n", 2: "[strength 2]\n", 3: "", 4: "[strength 4]\n", 5: "[strength 5]\n"} {
		if strength == 0 {
			continue
		}
		prints(t, api.Rules{Options: api.Options{Strength: strength}}, line)
		prints(t, api.Rules{Options: api.Options{Strength: strength, Shifted: true}}, line+"[shifted on]\n")
		prints(t, api.Rules{Options: api.Options{Strength: strength, Back: true}}, line+"[backwards on]\n")
		prints(t, api.Rules{Options: api.Options{Strength: strength, Shifted: true, Back: true}, Variable: []string{"a"}, Items: []api.Rule{reset("")}}, line+"[shifted on]\n[backwards on]\n& [variable] = a\n& ''\n")
	}
	prints(t, api.Rules{Options: api.Options{Strength: 3}, Variable: []string{" ", "", "-", "\xff", "ab"}}, "& [variable] = \\u{20} = '' = \\- = \\xff = ab\n")
	prints(t, usual(reset("a")), "& a\n")
	prints(t, usual(before("a"), before("")), "& [before 1] a\n& [before 1] ''\n")
	prints(t, usual(anchored(api.AIgnored), anchored(api.AFirst), anchored(api.ALast), reset("[last]")), "& [ignored]\n& [first]\n& [last]\n& \\[last\\]\n")
	prints(t, usual(reset("a"), relation(1, "b"), relation(2, "c"), relation(3, "d"), relation(4, "e"), anchored(api.ALast), relation(4, ""), extended(2, "", "\n"), reset("b"), reset("c"), extended(1, "'&'", "\\u{41}")), "& a < b << c <<< d = e\n& [last] = '' << '' / \\u{a}\n& b\n& c < \\'\\&\\' / \\\\u{41}\n")
	prints(t, usual(at(-7, reset("a")), at(1<<40, relation(1, "b"))), "& a < b\n")
}

// P10.4: options, and kinds, anchors and levels, that are just outside of their rows, and far.
func TestPrintWrong(t *testing.T) {
	for _, n := range []int{-1 << 63, -2, -1, 0, 6, 7, 1<<63 - 1} {
		notPrinted(t, api.Rules{Options: api.Options{Strength: n}}, api.ErrOption)
		notPrinted(t, api.Rules{Options: api.Options{Strength: n, Back: true}, Items: make([]api.Rule, maxRules+1)}, api.ErrOption)
	}
	for _, n := range []int{-1 << 63, -1, 0, 3, 4, 1<<63 - 1} {
		notPrinted(t, usual(api.Rule{Kind: n, Text: "a"}), api.ErrForm)
		notPrinted(t, usual(reset("a"), api.Rule{Kind: n, Level: 1, Text: "a"}), api.ErrForm)
	}
	for _, n := range []int{-1 << 63, -1, 4, 5, 1<<63 - 1} {
		notPrinted(t, usual(anchored(n)), api.ErrForm)
		notPrinted(t, usual(reset("a"), api.Rule{Kind: api.RRelation, Level: 1, Anchor: n}), api.ErrForm)
	}
	for _, n := range []int{-1 << 63, -1, 0, 5, 6, 1<<63 - 1} {
		notPrinted(t, usual(reset("a"), relation(n, "b")), api.ErrLevel)
		if n != 0 {
			notPrinted(t, usual(api.Rule{Kind: api.RReset, Text: "a", Level: n}), api.ErrForm)
		}
	}
	notPrinted(t, usual(api.Rule{Kind: api.RReset, Text: "a", Level: 1}), api.ErrForm)
	notPrinted(t, usual(api.Rule{Kind: api.RReset, Text: "a", Extend: "b"}), api.ErrForm)
	for anchor := api.AIgnored; anchor <= api.ALast; anchor++ {
		notPrinted(t, usual(api.Rule{Kind: api.RReset, Anchor: anchor, Text: "a"}), api.ErrForm)
		notPrinted(t, usual(api.Rule{Kind: api.RReset, Anchor: anchor, Before: true}), api.ErrForm)
		notPrinted(t, usual(reset("a"), api.Rule{Kind: api.RRelation, Level: 1, Anchor: anchor}), api.ErrForm)
	}
	notPrinted(t, usual(reset("a"), api.Rule{Kind: api.RRelation, Level: 4, Before: true}), api.ErrForm)
	notPrinted(t, usual(relation(1, "a")), api.ErrReset)
	notPrinted(t, api.Rules{Options: api.Options{Strength: 3}, Variable: []string{"a"}, Items: []api.Rule{relation(4, "a")}}, api.ErrReset)
}

// some are items of all kinds, right ones and wrong ones: in one thing, and in several.
func some() []api.Rule {
	var l []api.Rule
	for kind := -1; kind <= 3; kind++ {
		for anchor := -1; anchor <= 4; anchor++ {
			for level := -1; level <= 5; level++ {
				for i := range 8 {
					l = append(l, api.Rule{Kind: kind, Anchor: anchor, Level: level, Before: i&1 > 0, Text: []string{"", "a-"}[i>>1&1], Extend: []string{"", "\xff"}[i>>2], Line: i})
				}
			}
		}
	}
	return l
}

// P10.4: items that are wrong in one thing and in several; and two of which each may be.
func TestPrintItems(t *testing.T) {
	l := some()
	var few []api.Rule
	for i, x := range l {
		for _, ahead := range [][]api.Rule{nil, {reset("a")}, {relation(1, "b")}, {reset(""), relation(5, "b")}, {{Kind: 7}}, {before("b"), extended(2, "b", "c")}} {
			checkPrint(t, usual(append(slices.Clone(ahead), x)...))
			checkPrint(t, usual(append([]api.Rule{x}, ahead...)...))
		}
		if i%17 == 0 {
			few = append(few, x)
		}
	}
	for _, x := range few {
		for _, y := range few {
			checkPrint(t, usual(x, y))
			checkPrint(t, usual(reset("a"), x, y))
		}
	}
}

// P10.4: rules by chance.
func TestPrintByChance(t *testing.T) {
	c := chance(4)
	l := some()
	for range 20000 {
		r := api.Rules{Options: api.Options{Strength: c.below(7), Shifted: c.below(2) > 0, Back: c.below(2) > 0}}
		for range c.below(3) {
			r.Variable = append(r.Variable, c.of("", "a", "\xff", "'"))
		}
		for range c.below(4) {
			r.Items = append(r.Items, l[c.below(len(l))])
		}
		checkPrint(t, r)
	}
}

// P10.4: more items and texts of Variable than there may be; what is wrong with items is told behind that.
func TestPrintMany(t *testing.T) {
	items := slices.Repeat([]api.Rule{reset("a"), relation(2, "b")}, maxRules/2)
	texts := slices.Repeat([]string{"", "a"}, maxRules/2)
	checkPrint(t, usual(items...))
	for n := range 4 {
		r := api.Rules{Options: api.Options{Strength: 3}, Items: items[:maxRules-n], Variable: texts[:n]}
		checkPrint(t, r)
		r.Variable = texts[:n+1]
		notPrinted(t, r, api.ErrMany)
		r.Items = slices.Concat([]api.Rule{{Kind: 9}}, r.Items[1:])
		notPrinted(t, r, api.ErrMany)
		r.Variable = texts[:n]
		notPrinted(t, r, api.ErrForm)
	}
	notPrinted(t, usual(append(items, reset("a"))...), api.ErrMany)
	notPrinted(t, usual(make([]api.Rule, maxRules)...), api.ErrForm)
	notPrinted(t, usual(make([]api.Rule, maxRules+1)...), api.ErrMany)
	notPrinted(t, api.Rules{Options: api.Options{Strength: 3}, Variable: append(texts, "a")}, api.ErrMany)
	checkPrint(t, api.Rules{Options: api.Options{Strength: 3}, Variable: texts})
}

// P10.4: forms that have as many bytes as they may have, and one more, by each of their parts.
func TestPrintLong(t *testing.T) {
	a := strings.Repeat("a", maxSource)
	for _, x := range []struct {
		other int // bytes of the form beside those of the long text
		with  func(string) api.Rules
	}{
		{len("& \n"), func(s string) api.Rules { return usual(reset(s)) }},
		{len("& [before 1] \n"), func(s string) api.Rules { return usual(before(s)) }},
		{len("& a < \n"), func(s string) api.Rules { return usual(reset("a"), relation(1, s)) }},
		{len("& '' <<<  / b\n"), func(s string) api.Rules { return usual(reset(""), extended(3, s, "b")) }},
		{len("& a << b / \n"), func(s string) api.Rules { return usual(reset("a"), extended(2, "b", s)) }},
		{len("& \n& [first] = b\n& [last]\n"), func(s string) api.Rules {
			return usual(reset(s), anchored(api.AFirst), relation(4, "b"), anchored(api.ALast))
		}},
		{len("[strength 5]\n[shifted on]\n[backwards on]\n& [variable] =  = b\n& a\n"), func(s string) api.Rules {
			return api.Rules{Options: api.Options{Strength: 5, Shifted: true, Back: true}, Variable: []string{s, "b"}, Items: []api.Rule{reset("a")}}
		}},
	} {
		n := maxSource - x.other
		for _, s := range []string{a[:n], strings.Repeat("\xff", n/4) + a[:n%4], strings.Repeat("\n", n/5) + a[:n%5], strings.Repeat("-", n/2) + a[:n%2]} {
			form, e := rules.Print(x.with(s))
			if e != nil || len(form) != maxSource {
				t.Errorf("%d bytes, %v; want %d", len(form), e, maxSource)
			}
			comesBack(t, x.with(s))
			notPrinted(t, x.with(s+"a"), api.ErrMany)
			notPrinted(t, x.with(s+a), api.ErrMany)
			r := x.with(s + "a")
			r.Items = append(r.Items, api.Rule{Kind: 9})
			notPrinted(t, r, api.ErrForm)
			r = x.with(s)
			r.Items = append(r.Items, reset(""))
			notPrinted(t, r, api.ErrMany)
		}
	}
	half := a[:maxSource/2-4]
	checkPrint(t, usual(reset(half), relation(1, half), relation(1, "b")))
	notPrinted(t, usual(reset(half), relation(1, half), relation(1, "bc")), api.ErrMany)
	notPrinted(t, usual(slices.Repeat([]api.Rule{reset(strings.Repeat("\x1f", 4*maxSource))}, maxRules)...), api.ErrMany)
}

// P10.4: a form has as many lines as there are options and resets, which are never too many: a line end of a text is none of the form's.
func TestPrintLines(t *testing.T) {
	r := api.Rules{Options: api.Options{Strength: 1, Shifted: true, Back: true}, Items: slices.Repeat([]api.Rule{reset("a")}, maxRules)}
	if s, e := rules.Print(r); e != nil || strings.Count(s, "\n") != maxRules+3 {
		t.Errorf("%d lines, %v", strings.Count(s, "\n"), e)
	}
	checkPrint(t, r)
	comesBack(t, r)
	prints(t, usual(reset(strings.Repeat("\n", 65537))), "& "+strings.Repeat(`\u{a}`, 65537)+"\n")
}

// R4: what is handed in is not changed, its spare room included, and not kept.
func TestHandedIn(t *testing.T) {
	items := []api.Rule{reset("a"), relation(2, "b"), anchored(api.ALast), relation(9, "x")}
	texts := []string{" ", "-", "y"}
	r := api.Rules{Options: api.Options{Strength: 3}, Variable: texts[:2], Items: items[:3]}
	kept := slices.Concat(items)
	first, e := rules.Print(r)
	if e != nil || first != "& [variable] = \\u{20} = \\-\n& a << b\n& [last]\n" {
		t.Fatalf("%q, %v", first, e)
	}
	notPrinted(t, api.Rules{Options: r.Options, Variable: texts[:2], Items: items}, api.ErrLevel)
	if !slices.Equal(items, kept) || !slices.Equal(texts, []string{" ", "-", "y"}) {
		t.Errorf("%v, %v", items, texts)
	}
	items[0].Text, texts[0] = "z", "z"
	if first != "& [variable] = \\u{20} = \\-\n& a << b\n& [last]\n" {
		t.Errorf("%q", first)
	}
	prints(t, r, "& [variable] = z = \\-\n& z << b\n& [last]\n")
}
