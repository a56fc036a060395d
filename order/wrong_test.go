package order_test

import (
	"strings"
	"testing"

	"glossary/api"
	"glossary/order"
)

// P11.1: the chapter's examples of what is wrong.
func TestRefusedExamples(t *testing.T) {
	p := parsed(t, file)
	refuses(t, p, api.Rules{}, api.ErrOption, 0)
	for _, x := range []struct {
		items []api.Rule
		no    api.Errno
		line  int
	}{
		{[]api.Rule{at(7, relation(1, "a"))}, api.ErrReset, 7},
		{[]api.Rule{at(7, reset("ch"))}, api.ErrReset, 7},
		{[]api.Rule{reset("a"), at(7, relation(1, "a"))}, api.ErrArg, 7},
		{[]api.Rule{anchored(api.AIgnored), at(7, relation(1, "x"))}, api.ErrLevel, 7},
		{[]api.Rule{anchored(api.ALast), at(7, relation(2, "x"))}, api.ErrLevel, 7},
		{[]api.Rule{reset("a"), at(7, relation(5, "x"))}, api.ErrLevel, 7},
		{[]api.Rule{at(7, reset(""))}, api.ErrShort, 7},
		{[]api.Rule{before("a"), at(7, relation(2, "x"))}, api.ErrLevel, 7},
		{[]api.Rule{anchored(api.AIgnored), relation(2, "x"), at(7, before("x")), relation(1, "y")}, api.ErrReset, 7},
	} {
		refuses(t, p, of(x.items...), x.no, x.line)
	}
}

// P11.1: Strength from 1 to 5, ahead of all else; other options and Variable aren't looked at.
func TestStrength(t *testing.T) {
	p := parsed(t, file)
	many := make([]api.Rule, api.MaxRules+1)
	for s := -2; s < 9; s++ {
		r := of(reset("a"), relation(1, "b"))
		r.Options = api.Options{Strength: s, Shifted: s%2 == 0, Back: s%3 == 0}
		r.Variable = []string{"", "ch", strings.Repeat("a", 9), "a", "a"}
		if s >= 1 && s <= 5 {
			holds(t, p, r, lists{'a': "1a 1b"})
			continue
		}
		refuses(t, p, r, api.ErrOption, 0)
		for _, items := range [][]api.Rule{nil, many, {at(5, relation(1, "a"))}} {
			r.Items = items
			refuses(t, p, r, api.ErrOption, 0)
		}
	}
	for _, s := range []int{-1 << 63, 1<<63 - 1, 1<<32 + 3} {
		r := of()
		r.Options.Strength = s
		refuses(t, p, r, api.ErrOption, 0)
	}
}

// P11.1: MaxRules items, and one more, whatever else is wrong with them.
func TestMaxRules(t *testing.T) {
	p := parsed(t, file)
	items := []api.Rule{reset("a")}
	for r := rune(0x4e00); len(items) < api.MaxRules; r++ {
		items = append(items, relation(1+len(items)%4, string(r)))
	}
	o := ordered(t, p, of(items...))
	if l := o.List('a'); len(l) != api.MaxRules || l[0].Text != "a" || l[4095].Text != items[4095].Text {
		t.Errorf("%d seats", len(l))
	}
	check(t, p, of(items[:200]...))
	refuses(t, p, of(append(items[:len(items):len(items)], reset("a"))...), api.ErrMany, 0)
	refuses(t, p, of(append(items[:len(items):len(items)], at(9, relation(0, "")))...), api.ErrMany, 0)
	refuses(t, p, of(make([]api.Rule, api.MaxRules+1)...), api.ErrMany, 0)
	refuses(t, p, of(make([]api.Rule, api.MaxRules)...), api.ErrArg, 0)
	refuses(t, p, of(append(items[:len(items)-1:len(items)-1], at(9, relation(0, "x")))...), api.ErrLevel, 9)
	r := of(items...) // texts of Variable don't count
	r.Variable = make([]string, api.MaxRules)
	ordered(t, p, r)
}

// P11.1: texts that are moved to and fro in the longest list that there may be.
func TestLongList(t *testing.T) {
	p := parsed(t, file)
	items := []api.Rule{anchored(api.ALast)}
	for r := rune(0x4e00); len(items) < api.MaxRules/2; r++ {
		items = append(items, relation(1, string(r)))
	}
	for i := 2; len(items)+2 <= api.MaxRules; i++ { // each one to the place behind the first
		items = append(items, reset("\u4e00"), relation(2, items[i].Text))
	}
	l := ordered(t, p, of(items...)).List(api.ListLast)
	if len(l) != 2047 || l[0].Text != "\u4e00" || l[1].Level != 2 || l[1].Text != items[4095].Text || l[2].Text != items[4093].Text {
		t.Errorf("%d seats, %v", len(l), l[:min(3, len(l))])
	}
}

// P11.1: kinds, anchors and levels just outside their rows, and far from them.
func TestRows(t *testing.T) {
	p := parsed(t, file)
	for _, n := range []int{-1 << 63, -1 << 32, -1, 0, 1, 2, 3, 4, 5, 6, 1<<32 + 1, 1<<63 - 1} {
		if n != api.RReset && n != api.RRelation {
			refuses(t, p, of(api.Rule{Kind: n, Level: 1, Text: "a", Line: 3}), api.ErrArg, 3)
			refuses(t, p, of(reset("a"), api.Rule{Kind: n, Level: 1, Text: "b", Line: 3}), api.ErrArg, 3)
			refuses(t, p, of(reset("a"), api.Rule{Kind: n, Line: 3}), api.ErrArg, 3)
		}
		if n < 0 || n > 3 {
			refuses(t, p, of(api.Rule{Kind: api.RReset, Anchor: n, Text: "a", Line: 3}), api.ErrArg, 3)
			refuses(t, p, of(api.Rule{Kind: api.RReset, Anchor: n, Line: 3}), api.ErrArg, 3)
			refuses(t, p, of(api.Rule{Kind: api.RReset, Anchor: n, Before: true, Text: strings.Repeat("a", 9), Line: 3}), api.ErrArg, 3)
		}
		if n < 1 || n > 4 {
			for _, x := range []api.Rule{reset("a"), before("a"), anchored(api.AIgnored), anchored(api.AFirst), anchored(api.ALast)} {
				refuses(t, p, of(x, at(3, relation(n, "x"))), api.ErrLevel, 3)
				refuses(t, p, of(x, at(3, relation(n, "a"))), api.ErrLevel, 3)
			}
		} else {
			check(t, p, of(reset("a"), relation(n, "x")))
		}
	}
}

// P11.1: resets to texts that are empty, have no seat, have too many points; each with Before and without.
func TestResets(t *testing.T) {
	p := parsed(t, file)
	eight, digits := "aaaaaaaa", "12345678"
	for _, to := range []func(string) api.Rule{reset, before} {
		refuses(t, p, of(at(4, to(""))), api.ErrShort, 4)
		for _, s := range []string{"ab", "\u00c0", "\u1ea6", "A\u0300", "\uac00", "\xff\xff", "\u0132", digits, eight, strings.Repeat("\U0010ffff", 8), strings.Repeat("\xff", 8), "aaaaaa\u00c0"} {
			refuses(t, p, of(at(4, to(s))), api.ErrReset, 4)
		}
		for _, s := range []string{eight + "a", "aaaaaaa\u00c0", "\u0132\u0300", strings.Repeat("\u1ea6", 3), strings.Repeat("\xff", 9), strings.Repeat("\uac01", 3), strings.Repeat("\uac01", 300)} {
			refuses(t, p, of(at(4, to(s))), api.ErrMany, 4)
		}
		for _, x := range []struct{ put, to string }{{"ab", "ab"}, {"\u00c0", "A\u0300"}, {"A\u0300", "\u00c0"}, {"\u00c5", "\u00c0"}, {eight, eight}, {"\u0132", "12345678"}, {"12345678", "\u0132"}, {"aaaaaa\u00c0", "aaaaaaA\u0300"}, {"\xff\xfe", "\xff\xfe"}} {
			check(t, p, of(reset("a"), relation(1, x.put), to(x.to), relation(1, "y"), relation(2, "z")))
		}
	}
	refuses(t, p, of(reset("ab"), relation(1, "ab")), api.ErrReset, 1) // it gets one behind
}

// P11.1: Before with each anchor, and with seats that have no head.
func TestBeforeRefused(t *testing.T) {
	p := parsed(t, file)
	for _, anchor := range []int{api.AIgnored, api.AFirst, api.ALast} {
		for _, s := range []string{"", "a", strings.Repeat("a", 9)} {
			x := api.Rule{Kind: api.RReset, Anchor: anchor, Before: true, Text: s, Line: 6}
			refuses(t, p, of(x), api.ErrReset, 6)
			refuses(t, p, of(x, relation(1, "x")), api.ErrReset, 6)
		}
		refuses(t, p, of(anchored(anchor), relation(1+1/anchor, "x"), api.Rule{Kind: api.RReset, Anchor: anchor, Before: true, Line: 6}), api.ErrReset, 6)
	}
	for level := 2; level <= 4; level++ {
		refuses(t, p, of(anchored(api.AIgnored), relation(level, "x"), at(6, before("x"))), api.ErrReset, 6)
		refuses(t, p, of(anchored(api.AIgnored), relation(level, "x"), relation(2, "y"), relation(3, "z"), at(6, before("z"))), api.ErrReset, 6)
		refuses(t, p, of(before("a"), at(6, relation(level, "x"))), api.ErrLevel, 6)
		refuses(t, p, of(before("a"), at(6, relation(level, "a"))), api.ErrLevel, 6)
	}
	refuses(t, p, of(before("a"), at(6, relation(1, "a"))), api.ErrArg, 6)
	refuses(t, p, of(reset("a"), relation(2, "b"), before("b"), at(6, relation(1, "a"))), api.ErrArg, 6) // the head's own text
	refuses(t, p, of(before("a"), relation(1, "x"), at(6, relation(1, "x"))), api.ErrArg, 6)
	refuses(t, p, of(before("a"), relation(1, "x"), before("x"), at(6, relation(4, "y"))), api.ErrLevel, 6)
}

// P11.1: relations: no reset, empty texts, too many points, the anchor's text, levels that may not be there.
func TestRelations(t *testing.T) {
	p := parsed(t, file)
	eight := "aaaaaaaa"
	for _, x := range []struct {
		file  []api.Rule
		wrong api.Rule
		no    api.Errno
	}{
		{nil, relation(1, "a"), api.ErrReset},
		{nil, relation(0, ""), api.ErrReset},
		{[]api.Rule{reset("a")}, relation(1, ""), api.ErrShort},
		{[]api.Rule{reset("a")}, extended(9, "", eight+"a"), api.ErrShort},
		{[]api.Rule{anchored(api.AIgnored)}, relation(1, ""), api.ErrShort},
		{[]api.Rule{reset("a")}, relation(1, eight+"a"), api.ErrMany},
		{[]api.Rule{reset("a")}, relation(1, "aaaaaaa\u00c0"), api.ErrMany},
		{[]api.Rule{reset("a")}, relation(9, strings.Repeat("\xff", 9)), api.ErrMany},
		{[]api.Rule{reset("a")}, extended(1, "x", eight+"a"), api.ErrMany},
		{[]api.Rule{reset("a")}, extended(1, "x", "\u0132\u0300"), api.ErrMany},
		{[]api.Rule{reset("a")}, extended(1, "a", strings.Repeat("\xff", 9)), api.ErrMany},
		{[]api.Rule{reset("a")}, extended(0, "a", strings.Repeat("\uac00", 5)), api.ErrMany},
		{[]api.Rule{before("a")}, extended(2, "a", eight+"a"), api.ErrMany},
		{[]api.Rule{reset("a")}, relation(0, "a"), api.ErrLevel},
		{[]api.Rule{reset("a")}, relation(4, "a"), api.ErrArg},
		{[]api.Rule{reset("a"), relation(1, "b")}, relation(1, "b"), api.ErrArg},
		{[]api.Rule{anchored(api.AIgnored), relation(2, "b")}, relation(1, "b"), api.ErrLevel},
		{[]api.Rule{anchored(api.AIgnored), relation(2, "b")}, relation(1, "c"), api.ErrLevel},
		{[]api.Rule{anchored(api.AIgnored), relation(2, "b"), reset("b")}, relation(1, "c"), api.ErrLevel},
		{[]api.Rule{anchored(api.AIgnored), relation(2, "b")}, relation(2, "b"), api.ErrArg},
		{[]api.Rule{anchored(api.AFirst)}, relation(2, "x"), api.ErrLevel},
		{[]api.Rule{anchored(api.ALast)}, relation(4, "x"), api.ErrLevel},
		{[]api.Rule{anchored(api.AFirst), relation(1, "x"), anchored(api.ALast)}, relation(2, "x"), api.ErrLevel},
		{[]api.Rule{anchored(api.AFirst), relation(1, "x"), anchored(api.AFirst)}, relation(2, "x"), api.ErrLevel}, // its own seat is the only one
		{[]api.Rule{anchored(api.ALast), relation(1, "\u00c0"), anchored(api.ALast)}, relation(3, "\u00c5"), api.ErrLevel},
		{[]api.Rule{anchored(api.ALast), relation(1, "x"), reset("y"), relation(1, "x"), anchored(api.ALast)}, relation(2, "z"), api.ErrLevel}, // it has become empty
	} {
		refuses(t, p, of(append(x.file, at(8, x.wrong))...), x.no, 8)
	}
	holds(t, p, of(reset("a"), extended(1, eight, "\u0132")), lists{'a': "1a 1aaaaaaaa/12345678"})
	holds(t, p, of(reset("a"), extended(4, "\u0132", eight)), lists{'a': "1a 412345678/aaaaaaaa"})
}

// P11.1: of two items that are wrong the first one is told, with its Line, whatever that is.
func TestTwoWrongs(t *testing.T) {
	p := parsed(t, file)
	wrongs := []struct {
		x  api.Rule
		no api.Errno
	}{
		{api.Rule{Kind: 7}, api.ErrArg}, {api.Rule{Kind: api.RReset, Anchor: 4}, api.ErrArg}, {reset(""), api.ErrShort}, {reset("aaaaaaaaa"), api.ErrMany}, {reset("xy"), api.ErrReset},
		{relation(1, ""), api.ErrShort}, {relation(1, "aaaaaaaaa"), api.ErrMany}, {relation(5, "x"), api.ErrLevel}, {relation(2, "a"), api.ErrArg},
	}
	for _, x := range wrongs {
		for _, y := range wrongs {
			for _, lines := range [][2]int{{1, 2}, {2, 1}, {0, 3}, {-5, 1 << 62}, {4, 4}} {
				refuses(t, p, of(reset("a"), at(lines[0], x.x), at(lines[1], y.x)), x.no, lines[0])
				refuses(t, p, of(reset("a"), at(lines[0], x.x), reset("a"), relation(1, "z"), at(lines[1], y.x)), x.no, lines[0])
			}
		}
	}
}

// P11.1: what is wrong at the end of rules leaves no order behind, and nothing that a later call sees.
func TestNothingLeft(t *testing.T) {
	p := parsed(t, file)
	for range 3 {
		if o, e := order.Build(p, of(reset("a"), relation(1, "b"), relation(2, "c"), at(2, relation(9, "d")))); o != nil || e == nil {
			t.Error(o, e)
		}
		holds(t, p, of(), lists{'a': "1a", 'b': "1b", 'c': "1c"})
	}
}
