package table_test

import (
	"errors"
	"slices"
	"strings"
	"testing"

	"glossary/api"
	"glossary/normal"
	"glossary/order"
	"glossary/points"
	"glossary/props"
	"glossary/table"
	"glossary/weights"
)

// texts are what rules by chance speak of.
var texts = []string{
	"a", "b", "c", "h", "ch", "chh", "hc", "ab", "abcabcab", "a\u0308", "a\u0323", "a\u0323\u0308", "b\u0327\u0301", "b\u0345", "ch\u0301", "\u0301", "\u0323", "\u0323\u0308", "\u0308\u0308",
	"\u00c0", "A", "A\u0327", "\xc3", "\xc3\xff", "\xa9\xc3", "\u00e9", "\uac01", "\u1100\u1161", "\u0302", "a\u0302", "a\u0302\u0345",
}

// extends are Extends of rules by chance.
var extends = []string{"c", "ch", "hch", "\u00e4", "a\u0323\u0308h", "a\u0301\u0308", "b\u0308\u0327\u0301", "\xc3\xff", "\u1ea6", "abcabcab", "bb", "\uac01", "xy"}

// some is one of a list by chance.
func some[E any](c *chance, l []E) E { return l[c.below(len(l))] }

// someRules are rules by chance with which nothing is wrong as an order; one Extend in so many.
func someRules(p *props.Props, c *chance, n, extended int) api.Rules {
	r := of()
	for range n {
		x := relation(1+c.below(4), some(c, texts), "")
		switch {
		case c.below(4) == 0:
			x = reset(some(c, texts))
			x.Before = c.below(4) == 0
		case c.below(12) == 0:
			x = anchored(1 + c.below(3))
		case c.below(extended) == 0:
			x.Extend = some(c, extends)
		}
		r.Items = append(r.Items, x)
		if _, e := order.Build(p, r); e != nil {
			r.Items = r.Items[:len(r.Items)-1]
		}
	}
	for range c.below(4) {
		r.Variable = append(r.Variable, some(c, []string{"a", "ch", "b", "\u0301", "x", "\u00e9", "xy"}))
	}
	return r
}

// someRow is a row by chance, of points of which rules speak, and of others; decomposed or not.
func someRow(p *props.Props, c *chance) []rune {
	var l []rune
	for range c.below(9) {
		if c.below(3) == 0 {
			l = append(l, some(c, []rune{'a', 'b', 'x', 0x308, 0x301, 0x323, 0x327, 0x345, 0x302, 0xc0, 0xe4, 0xac01, 0x1100c3, 0x1100a9, 0x10ffff, 0xd800, -1, 0x110000}))
		} else {
			l = append(l, points.Of(some(c, texts))...)
		}
	}
	if c.below(2) == 0 {
		l = normal.Decompose(p, l)
	}
	return l
}

// P13.1 to P13.4: rules by chance, and rows.
func TestByChance(t *testing.T) {
	p := parsed(t, file)
	by := chance(13)
	counts := map[api.Errno]int{}
	for i := range 1500 {
		r := someRules(p, &by, 24, 2+i%9)
		c := second(t, p, r)
		no := c.wrong()
		counts[no]++
		if no != api.OK {
			refuses(t, p, r, no)
			continue
		}
		x := tabled(t, p, r)
		for _, s := range slices.Concat(texts, extends) {
			ofAlike(t, x, c, s)
			if w, ok := weights.Of(c.order, s); ok && x.Variable(w) != c.shifted(w) {
				t.Fatalf("Variable(%v) of %q: %v", w, s, x.Variable(w))
			}
		}
		for range 12 {
			matchesAlike(t, x, c, someRow(p, &by))
		}
	}
	for _, no := range []api.Errno{api.OK, api.ErrNone, api.ErrLoop} {
		if counts[no] < 100 {
			t.Errorf("%v: %d times", no, counts[no])
		}
	}
}

// P13.1: expansions by chance about the greatest that there may be, in which no text leads to one behind it.
func TestCountsByChance(t *testing.T) {
	p := parsed(t, file)
	by := chance(14)
	counts := map[api.Errno]int{}
	full := 0 // tables with an expansion of just MaxElements weights
	for range 800 {
		r := of(reset("a"))
		for i := range 11 {
			extend := ""
			for range by.below(6) {
				extend += some(&by, []string{letter(by.below(i + 1)), letter(max(i-1, 0)), "x", "y"})
			}
			r.Items = append(r.Items, relation(1, letter(i), strings.ReplaceAll(extend, letter(i), "z")))
		}
		c := second(t, p, r)
		no := c.wrong()
		counts[no]++
		if no != api.OK {
			refuses(t, p, r, no)
			continue
		}
		x := tabled(t, p, r)
		for i := range 11 {
			ofAlike(t, x, c, letter(i))
			if l, _ := x.Of(letter(i)); len(l) == api.MaxElements {
				full++
			}
		}
	}
	if counts[api.OK] < 100 || counts[api.ErrMany] < 100 || counts[api.ErrLoop] > 0 || full == 0 {
		t.Error(counts, full)
	}
}

// longest holds P13.5 of a place, against the document's words: nothing longer has a seat.
func longest(t *testing.T, c collator, l []rune, at int, places []int) {
	t.Helper()
	n := 1 // points in a row
	for n < len(places) && places[n] == at+n {
		n++
	}
	if len(places) == 0 || places[0] != at || !slices.IsSorted(places) {
		t.Fatalf("%x at %d: %v", l, at, places)
	}
	for end := at + n + 1; end <= len(l); end++ {
		if _, ok := c.seat(l[at:end]); ok {
			t.Fatalf("%x at %d: %v, but there is a longer piece, to %d", l, at, places, end)
		}
	}
	row, most := slices.Clone(l[at:at+n]), 0
	for i := at + n; i < len(l) && c.props.Class(l[i]) > 0; i++ {
		if slices.Contains(places, i) {
			row = append(row, l[i])
		}
	}
	for i := at + n; i < len(l) && c.props.Class(l[i]) > 0; i++ {
		if slices.Contains(places, i) {
			continue
		}
		if _, ok := c.seat(append(slices.Clone(row), l[i])); ok && c.props.Class(l[i]) > most {
			t.Fatalf("%x at %d: %v, but not %d", l, at, places, i)
		}
		most = max(most, c.props.Class(l[i]))
	}
}

// counted is the end of what counts at a place: behind the first point of class 0 that stands far enough.
func counted(p *props.Props, l []rune, at int) int {
	for i := at + api.MaxPiece; i < len(l); i++ {
		if p.Class(l[i]) == 0 {
			return i + 1
		}
	}
	return len(l)
}

// P13.5: the longest is taken; what stands ahead counts for nothing, nor does what stands far enough behind.
func TestLongest(t *testing.T) {
	p := parsed(t, file)
	by := chance(5)
	for range 400 {
		r := someRules(p, &by, 24, 1000)
		r.Variable = nil
		x, e := table.New(p, r)
		if errors.Is(e, api.ErrLoop) {
			continue
		}
		c := second(t, p, r)
		for range 10 {
			l := slices.Concat(someRow(p, &by), someRow(p, &by))
			for at := range l {
				w, places := x.Match(l, at)
				longest(t, c, l, at, places)
				ahead := someRow(p, &by)
				long := slices.Concat(ahead, l[at:counted(p, l, at)], someRow(p, &by))
				v, moved := x.Match(long, len(ahead))
				for i := range moved {
					moved[i] += at - len(ahead)
				}
				if at+api.MaxPiece < len(l) && counted(p, l, at) < len(l) && (!slices.Equal(v, w) || !slices.Equal(moved, places)) {
					t.Fatalf("Match(%x, %d): %v %v; Match(%x, %d): %v %v", l, at, w, places, long, len(ahead), v, moved)
				}
				if v, same := x.Match(slices.Concat(ahead, l[at:]), len(ahead)); !slices.Equal(v, w) || len(same) != len(places) {
					t.Fatalf("Match(%x, %d): %v %v; behind %x: %v %v", l, at, w, places, ahead, v, same)
				}
			}
		}
	}
}

// P13.6: texts that are canonically the same are told the same.
func TestCanonical(t *testing.T) {
	p := parsed(t, file)
	by := chance(6)
	r := read(t, `& a < \u{c0} / ch < \u{e4} <<< \u{1ea6} < x\u{327}\u{301} / \u{e4} < \u{ac01} / \u{ac00} < \u{3a9} << \u{344} < ch`)
	x := tabled(t, p, r)
	pieces := points.Of("aAx\u0300\u0301\u0308\u0327\u00c0\u00c5\u00e4\u1ea6\u2126\u03a9\u0344\uac01\uac00\u1100\u1161\u11a8ch\xc3\xff")
	told := 0
	for range 20000 {
		var l []rune
		for range by.below(5) {
			l = append(l, some(&by, pieces))
		}
		s, _ := points.Text(l)
		w, ok := x.Of(s)
		for _, same := range []string{normal.Text(p, s, false), normal.Text(p, s, true)} {
			if v, has := x.Of(same); has != ok || !slices.Equal(v, w) {
				t.Fatalf("Of(%q): %v %v; Of(%q): %v %v", s, w, ok, same, v, has)
			}
		}
		if ok {
			told++
		}
	}
	if told < 1000 {
		t.Errorf("%d texts have a seat", told)
	}
	for _, s := range []string{"\u00c0", "A\u0300", "\u00c5", "\u00e4", "a\u0308", "\u1ea6", "\u00c0\u0301", "A\u0300\u0301", "x\u0301\u0327", "x\u0327\u0301", "\uac01", "\uac00\u11a8", "\u1100\u1161\u11a8", "\u2126", "\u0344", "\u0308\u0301"} {
		if _, ok := x.Of(s); !ok {
			t.Errorf("Of(%q) has no seat", s)
		}
	}
}

// P13.6: a text of one point of which no rule speaks weighs what is plain, if the point doesn't decompose; all points.
func TestOnePoint(t *testing.T) {
	p := parsed(t, file)
	x := tabled(t, p, read(t, example+" & [ignored] << xx / y & [last] < q\\u{301} & v << \\xff\\xfe"))
	spoken := []rune{'c', 'z', 'v'} // their lists are touched, but not their own places
	for r := rune(0); r <= api.MaxIll; r++ {
		s, e := points.Text([]rune{r})
		if e != nil {
			continue
		}
		w, ok := x.Of(s)
		switch {
		case len(p.Decomp(r)) == 0:
			if !ok || !slices.Equal(w, []api.Weight{weights.Plain(r)}) {
				t.Fatalf("Of(%q): %v %v", s, w, ok)
			}
		case r == 0xe4:
			if !ok || len(w) != 1 || w[0].First <= weights.Plain('z').First || w[0].First >= weights.Plain('{').First {
				t.Fatalf("Of(%q): %v %v", s, w, ok)
			}
		case ok != (len(normal.Decompose(p, []rune{r})) == 1) || ok && !slices.Equal(w, []api.Weight{weights.Plain(p.Decomp(r)[0])}):
			t.Fatalf("Of(%q): %v %v", s, w, ok)
		}
	}
	for _, r := range spoken {
		if w, _ := x.Of(string(r)); !slices.Equal(w, []api.Weight{weights.Plain(r)}) {
			t.Errorf("Of(%c): %v", r, w)
		}
	}
}

// P13.7: without rules each point of a decomposed row is taken alone.
func TestNoRules(t *testing.T) {
	p := parsed(t, file)
	x := tabled(t, p, of())
	var all []rune
	for r := rune(0); r <= api.MaxIll; r++ {
		if _, e := points.Text([]rune{r}); e == nil && len(p.Decomp(r)) == 0 {
			all = append(all, r)
		}
	}
	alone(t, x, all)
	by := chance(7)
	for range 2000 {
		alone(t, x, normal.Decompose(p, someRow(p, &by)))
	}
	lacks(t, x, "")
	lacks(t, x, "ab")
	lacks(t, x, "\u00c0")
	if x.Variable(weights.Plain('a')) || x.Variable(api.Weight{}) {
		t.Error("Variable")
	}
	// Resets alone change nothing.
	alone(t, tabled(t, p, of(reset("a"), anchored(api.ALast), reset("\u0301"))), points.Of("ab\u0327\u0301A\u0300\xff"))
}

// alone holds that each point of a row is taken alone, and is plain.
func alone(t *testing.T, x *table.Table, l []rune) {
	t.Helper()
	for at, r := range l {
		if w, places := x.Match(l, at); len(w) != 1 || w[0] != weights.Plain(r) || len(places) != 1 || places[0] != at {
			t.Fatalf("Match(%x .., %d): %v %v", r, at, w, places)
		}
	}
}
