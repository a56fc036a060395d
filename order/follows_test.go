package order_test

import (
	"slices"
	"sync"
	"testing"

	"glossary/api"
	"glossary/normal"
	"glossary/order"
	"glossary/points"
	"glossary/props"
)

// follows holds P11.5 of one list, against the document's words.
func follows(t *testing.T, o *order.Order, list rune, l []api.Seat) {
	t.Helper()
	for i, x := range l {
		if seat, at, ok := o.Find(x.Text); seat != x || at != i || !ok || x.List != list {
			t.Fatalf("Find(%q), number %d of %x: %v %d %v", x.Text, i, list, seat, at, ok)
		}
		switch {
		case x.Level < 1 || x.Level > 4:
			t.Fatalf("%v: its level", x)
		case i == 0 && list != api.ListIgnored && x.Level != 1:
			t.Fatalf("%v is the first of %x", x, list)
		case list == api.ListIgnored && x.Level == 1:
			t.Fatalf("%v is ignored", x)
		}
	}
}

// texts are what the rules of these tests speak of.
var texts = []string{"a", "b", "c", "d", "ch", "\u00c0", "A\u0300", "\xff", "\x80", "\u0301", "\uac01", "ab", "A"}

// someItem is an item that may be wrong.
func (c *chance) someItem(line int) api.Rule {
	x := api.Rule{Kind: api.RRelation, Text: texts[c.below(len(texts))], Line: line}
	switch n := c.below(40); {
	case n < 10:
		x.Kind, x.Before = api.RReset, c.below(3) == 0
		if c.below(4) == 0 {
			x.Anchor = 1 + c.below(3)
		}
	case n == 10:
		x.Kind = c.below(4)
	case n == 11:
		x.Anchor, x.Kind = c.below(6)-1, api.RReset
	case n == 12:
		x.Text = []string{"", "aaaaaaaaa", "abababa\u00c0", "zz"}[c.below(4)]
	}
	if x.Kind == api.RRelation {
		x.Level = []int{1, 1, 1, 2, 2, 2, 3, 3, 4, 4, c.below(7) - 1}[c.below(11)]
		x.Extend = []string{"", "", "", "c", "\u00c0", "\xff", "aaaaaaaaa"}[c.below(7)]
	}
	return x
}

// P11.1 to P11.5: items by chance, one behind the other: those that are wrong are told, and then left out.
func TestByChance(t *testing.T) {
	p := parsed(t, file)
	c := chance(11)
	for range 400 {
		var items []api.Rule
		for line := range 60 {
			items = append(items, c.someItem(line))
			check(t, p, of(items...))
			if _, f := built(p, of(items...)); f.No != api.OK {
				items = items[:len(items)-1]
			}
		}
	}
}

// P11.1 to P11.5: all rules of a few items.
func TestAllShort(t *testing.T) {
	p := parsed(t, file)
	all := []api.Rule{reset("a"), reset("b"), reset("ch"), before("a"), before("b"), anchored(api.AIgnored), anchored(api.ALast)}
	for _, s := range []string{"a", "b", "ch"} {
		for level := 1; level <= 4; level++ {
			all = append(all, relation(level, s))
		}
	}
	var every func(items []api.Rule, n int)
	every = func(items []api.Rule, n int) {
		check(t, p, of(items...))
		if _, f := built(p, of(items...)); n == 0 || f.No != api.OK {
			return // whatever comes behind, this is told
		}
		for i, x := range all {
			every(append(items[:len(items):len(items)], at(i+1, x)), n-1)
		}
	}
	every(nil, 4)
}

// last tells whether rules end with a relation that isn't the first one behind a Before, and whose anchor is a seat; and the text of that seat.
func last(items []api.Rule) (string, bool) {
	if len(items) < 2 || items[len(items)-1].Kind != api.RRelation {
		return "", false
	}
	x := items[len(items)-2]
	return x.Text, x.Kind == api.RRelation || x.Anchor == api.ANone && !x.Before
}

// without are seats but for that of a text.
func without(l []api.Seat, text string) []string {
	var all []string
	for _, x := range l {
		if x.Text != text {
			all = append(all, x.Text)
		}
	}
	return all
}

// lastRelation holds P11.6 of rules that end with such a relation.
func lastRelation(t *testing.T, p *props.Props, items []api.Rule, anchor string) {
	t.Helper()
	end := items[len(items)-1]
	short, whole := ordered(t, p, of(items[:len(items)-1]...)), ordered(t, p, of(items...))
	seat, to, ok := whole.Find(end.Text)
	r, from, there := whole.Find(anchor)
	if !ok || !there || seat.Level != end.Level || seat.List != r.List || to <= from {
		t.Fatalf("%s: %v at %d, the anchor %v at %d", shown(items), seat, to, r, from)
	}
	for _, x := range whole.List(r.List)[from+1 : to] {
		if x.Level <= end.Level {
			t.Fatalf("%s: %v stands between %v and %v", shown(items), x, r, seat)
		}
	}
	for _, list := range slices.Concat(known, []rune{api.ListIgnored, api.ListFirst, api.ListLast}) {
		if a, b := without(short.List(list), seat.Text), without(whole.List(list), seat.Text); !slices.Equal(a, b) {
			t.Fatalf("%s: list %x was %q, is %q", shown(items), list, a, b)
		}
	}
	if seat.Text != normal.Text(p, end.Text, false) {
		t.Fatalf("%s: %q", shown(items), seat.Text)
	}
}

// P11.6: of rules by chance, at each relation.
func TestLastRelation(t *testing.T) {
	p := parsed(t, file)
	c := chance(12)
	held := 0
	for range 300 {
		var items []api.Rule
		for line := range 40 {
			items = append(items, c.someItem(line))
			if _, e := order.Build(p, of(items...)); e != nil {
				items = items[:len(items)-1]
				continue
			}
			if anchor, ok := last(items); ok {
				lastRelation(t, p, items, anchor)
				held++
			}
		}
	}
	if held < 2000 {
		t.Errorf("held %d times", held)
	}
}

// P11.7: rules of no items: each point has its own seat, or none if it decomposes; no list is touched.
func TestNoItems(t *testing.T) {
	p := parsed(t, file)
	r := of()
	r.Variable, r.Options.Shifted, r.Options.Back = []string{"a", "xyz"}, true, true
	for _, o := range []*order.Order{ordered(t, p, of()), ordered(t, p, r)} {
		for r := rune(-3); r <= 0x110102; r++ {
			text, e := points.Text([]rune{r})
			l := o.List(r)
			if e != nil || len(p.Decomp(r)) > 0 {
				if len(l) != 0 {
					t.Fatalf("List(%x): %v", r, l)
				}
				continue
			}
			want := api.Seat{Text: text, List: r, Level: 1}
			if seat, at, ok := o.Find(text); seat != want || at != 0 || !ok || len(l) != 1 || l[0] != want {
				t.Fatalf("%x: %v %d %v, %v", r, seat, at, ok, l)
			}
		}
		for list := range o.Lists() {
			t.Errorf("%x was touched", list)
		}
	}
}

// R3, R4: what was handed in may change, what was answered too: the order stays.
func TestMemory(t *testing.T) {
	p := parsed(t, file)
	room := make([]api.Rule, 0, 16)
	items := append(room, reset("a"), relation(1, "b"), extended(2, "c", "d"), anchored(api.ALast), relation(1, "x"))
	r := of(items...)
	r.Variable = append(make([]string, 0, 4), "a")
	o := ordered(t, p, r)
	if want := []api.Rule{reset("a"), relation(1, "b"), extended(2, "c", "d"), anchored(api.ALast), relation(1, "x")}; !slices.Equal(items, want) || r.Variable[0] != "a" {
		t.Errorf("handed in, and changed: %v", items)
	}
	for _, x := range items[:cap(items)][len(items):] {
		if x != (api.Rule{}) {
			t.Errorf("the spare room: %v", x)
		}
	}
	for i := range items[:cap(items)] {
		items[:cap(items)][i] = api.Rule{Kind: api.RRelation, Text: "z", Level: 4}
	}
	for range 2 {
		for list, want := range (lists{'a': "1a 1b 2c/d", 'b': "", 'y': "1y", api.ListLast: "1x"}) {
			l, again := o.List(list), o.List(list)
			if told(l) != want {
				t.Errorf("List(%x): %q, want %q", list, told(l), want)
			}
			for i := range l[:cap(l)] {
				l[:cap(l)][i] = api.Seat{Text: "spoilt"}
			}
			_ = append(l, api.Seat{Text: "more"})
			if told(again) != want {
				t.Errorf("List(%x), another answer: %q", list, told(again))
			}
		}
		if seat, at, ok := o.Find("c"); seat != (api.Seat{Text: "c", List: 'a', Level: 2, Extend: "d"}) || at != 2 || !ok {
			t.Error(seat, at, ok)
		}
		if got := slices.Collect(o.Lists()); !slices.Equal(got, []rune{'a', 'b', 'c', 'x', api.ListLast}) {
			t.Errorf("%x", got)
		}
	}
}

// R5: two orders of the same rules are the same; orders of one file of properties know nothing of each other; many may ask one at a time.
func TestAlone(t *testing.T) {
	p := parsed(t, file)
	r := read(t, "& a < b << c & [ignored] << \\u{301} & z < y < x")
	o := ordered(t, p, r)
	var all sync.WaitGroup
	for range 8 {
		all.Add(1)
		go func() {
			defer all.Done()
			for range 50 {
				own, e := order.Build(p, r)
				if e != nil || told(own.List('a')) != "1a 1b 2c" || told(o.List('a')) != "1a 1b 2c" || told(o.List('q')) != "1q" {
					t.Error("List")
				}
				if !slices.Equal(slices.Collect(own.Lists()), slices.Collect(o.Lists())) {
					t.Error("Lists")
				}
				if seat, at, ok := o.Find("x"); seat.List != 'z' || at != 2 || !ok {
					t.Error("Find")
				}
			}
		}()
	}
	all.Wait()
}
