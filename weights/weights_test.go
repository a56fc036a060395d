package weights_test

import (
	"math"
	"slices"
	"strconv"
	"strings"
	"sync"
	"testing"

	"glossary/api"
	"glossary/order"
	"glossary/points"
	"glossary/props"
	"glossary/rules"
	"glossary/weights"
)

// The calls have the signatures that the chapter lists.
var (
	_ func(*order.Order, string) (api.Weight, bool) = weights.Of
	_ func(rune) api.Weight                         = weights.Plain
	_ func(uint64) string                           = weights.Bytes
	_ func(string, int) (uint64, int, bool)         = weights.Read
)

// file has points that decompose to one, to two and to three, and marks.
const file = "class 0300..0304 230\nclass 0327 202\ndecomp 00C0 0041 0300\ndecomp 1EA6 00C0 0301\ndecomp 2126 03A9\n"

// parsed are the properties of the file.
func parsed(t *testing.T) *props.Props {
	t.Helper()
	p, e := props.Parse(file)
	if e != nil {
		t.Fatal(e)
	}
	return p
}

// built is the order of rules that are right.
func built(t *testing.T, r api.Rules) *order.Order {
	t.Helper()
	o, e := order.Build(parsed(t), r)
	if e != nil {
		t.Fatal(e)
	}
	return o
}

// ordered is the order of a file of rules.
func ordered(t *testing.T, s string) *order.Order {
	t.Helper()
	r, e := rules.Parse(s)
	if e != nil {
		t.Fatalf("%q: %v", s, e)
	}
	return built(t, r)
}

// of are rules of these items.
func of(items ...api.Rule) api.Rules {
	return api.Rules{Options: api.Options{Strength: 3}, Items: items}
}

func reset(text string) api.Rule   { return api.Rule{Kind: api.RReset, Text: text} }
func anchored(anchor int) api.Rule { return api.Rule{Kind: api.RReset, Anchor: anchor} }
func relation(level int, text string) api.Rule {
	return api.Rule{Kind: api.RRelation, Level: level, Text: text}
}

// told is what a text weighs, its First less the number of the list times 2^20; "none", if it has no seat.
func told(o *order.Order, list rune, text string) string {
	w, ok := weights.Of(o, text)
	switch {
	case !ok && w == (api.Weight{}):
		return "none"
	case !ok:
		return "a weight beside false"
	case list != api.ListIgnored:
		w.First -= number(list) * 1048576
	}
	return strconv.FormatUint(w.First, 10) + "." + strconv.Itoa(int(w.Second)) + "." + strconv.Itoa(int(w.Third))
}

// weighs holds what texts weigh: want are texts, each with what is told of it.
func weighs(t *testing.T, o *order.Order, list rune, want ...string) {
	t.Helper()
	for x := range slices.Chunk(want, 2) {
		if got := told(o, list, x[0]); got != x[1] {
			t.Errorf("%q of %x: %s, want %s", x[0], list, got, x[1])
		}
	}
}

// P12.1: the chapter's examples.
func TestOfExamples(t *testing.T) {
	o := ordered(t, "& a < b << c <<< d = e < f & [ignored] <<< x << y <<< z")
	for s, want := range map[string]api.Weight{
		"a": {First: 0x64*1048576 + 1, Second: 32, Third: 32},
		"b": {First: 0x64*1048576 + 2, Second: 32, Third: 32},
		"c": {First: 0x64*1048576 + 2, Second: 33, Third: 32},
		"d": {First: 0x64*1048576 + 2, Second: 33, Third: 33},
		"e": {First: 0x64*1048576 + 2, Second: 33, Third: 33},
		"f": {First: 0x64*1048576 + 3, Second: 32, Third: 32},
		"x": {Third: 33},
		"y": {Second: 33, Third: 32},
		"z": {Second: 33, Third: 33},
		"g": {First: 0x6a*1048576 + 1, Second: 32, Third: 32},
	} {
		if w, ok := weights.Of(o, s); w != want || !ok {
			t.Errorf("Of(%q): %v %t, want %v", s, w, ok, want)
		}
	}
	if w, _ := weights.Of(o, "g"); w != weights.Plain('g') {
		t.Error(w)
	}
	if w, ok := weights.Of(o, "ab"); w != (api.Weight{}) || ok {
		t.Error(w, ok)
	}
}

// P12.1: texts without a seat: the empty one, such as no rule speaks of, ill-formed ones, too long ones.
func TestOfNone(t *testing.T) {
	o := ordered(t, `& a < b < ch << x\xff & [ignored] << yy`)
	for _, s := range []string{
		"", "ab", "hc", "chc", "yyy", "aaaaaaaaa", strings.Repeat("ch", 5000), "\x00\x00",
		"c\xff", "\xff\xff", "\xffx", "\xed\xa0\x80", "\xe2\x82", "\u00c0", "A\u0300", "\u1ea6", "\u00c0\u0301", "\uac00", "\u1100\u1161",
	} {
		if w, ok := weights.Of(o, s); w != (api.Weight{}) || ok {
			t.Errorf("Of(%q): %v %t", s, w, ok)
		}
	}
	weighs(t, o, 'y', "y", "1.32.32")
	weighs(t, o, api.ListIgnored, "yy", "0.33.32")
}

// P12.1: ill-formed bytes have seats of their own, and stand in texts of rules.
func TestOfIllFormed(t *testing.T) {
	o := ordered(t, `& a < \xff << x\xff & \xfe < b <<< \u{e9}`)
	weighs(t, o, 'a', "a", "1.32.32", "\xff", "2.32.32", "x\xff", "2.33.32")
	weighs(t, o, 0x1100fe, "\xfe", "1.32.32", "b", "2.32.32", "\u00e9", "2.32.33")
	weighs(t, o, 0x110080, "\x80", "1.32.32")
	weighs(t, o, 0x1100c3, "\xc3", "1.32.32")
	weighs(t, o, 0xfffd, "\ufffd", "1.32.32")
}

// P12.1: a text weighs what it weighs decomposed, however it comes.
func TestOfDecomposed(t *testing.T) {
	o := ordered(t, `& z < \u{c0} << \u{1ea6} & \u{2126} < q & [last] < \u{ac01}`)
	weighs(t, o, 'z', "A\u0300", "2.32.32", "\u00c0", "2.32.32", "A\u0300\u0301", "2.33.32", "\u00c0\u0301", "2.33.32", "\u1ea6", "2.33.32", "A\u0301\u0300", "none")
	weighs(t, o, 0x3a9, "\u03a9", "1.32.32", "\u2126", "1.32.32", "q", "2.32.32")
	weighs(t, o, api.ListLast, "\uac01", "1.32.32", "\u1100\u1161\u11a8", "1.32.32", "\uac00\u11a8", "1.32.32", "\uac00", "none")
}

// P12.1: seats of a list that rules have not touched weigh what is plain; of each point that has one.
func TestOfUntouched(t *testing.T) {
	o, p := ordered(t, "& a < b"), parsed(t)
	for r := range rune(api.MaxIll + 3) {
		s, e := points.Text([]rune{r})
		if e != nil || r == 'b' || r > 0x3000 && r < 0x10ff00 && r%97 > 1 {
			continue
		}
		want := weights.Plain(r)
		switch l := p.Decomp(r); len(l) {
		case 0:
		case 1:
			want = weights.Plain(l[0])
		default:
			want = api.Weight{}
		}
		if w, ok := weights.Of(o, s); w != want || ok != (want != api.Weight{}) {
			t.Fatalf("%x: %v %t, want %v", r, w, ok, want)
		}
	}
}

// P12.1: the lists that belong to no point.
func TestOfOtherLists(t *testing.T) {
	o := ordered(t, "& [first] < b << c < d & [last] < x <<< y = y2 << y3 < z & [ignored] = m = n <<< o <<< p = p2 << q = r <<< s << u <<< v")
	weighs(t, o, api.ListFirst, "b", "1.32.32", "c", "1.33.32", "d", "2.32.32")
	weighs(t, o, api.ListLast, "x", "1.32.32", "y", "1.32.33", "y2", "1.32.33", "y3", "1.33.32", "z", "2.32.32")
	weighs(t, o, api.ListIgnored, "m", "0.0.0", "n", "0.0.0", "o", "0.0.33", "p", "0.0.34", "p2", "0.0.34", "q", "0.33.32", "r", "0.33.32", "s", "0.33.33", "u", "0.34.32", "v", "0.34.33")
	for s, want := range map[string]uint64{"b": 2*1048576 + 1, "d": 2*1048576 + 2, "x": 0x110103*1048576 + 1, "z": 0x110103*1048576 + 2} {
		if w, ok := weights.Of(o, s); w.First != want || !ok {
			t.Errorf("Of(%q): %v, want %d", s, w, want)
		}
	}
	for s, want := range map[string]string{"& [ignored] << m <<< n": "0.33.32 0.33.33", "& [ignored] <<< m << n": "0.0.33 0.33.32", "& [ignored] = m << n": "0.0.0 0.33.32", "& [ignored] = m <<< n": "0.0.0 0.0.33"} {
		o = ordered(t, s)
		if got := told(o, api.ListIgnored, "m") + " " + told(o, api.ListIgnored, "n"); got != want {
			t.Errorf("%q: %s, want %s", s, got, want)
		}
	}
}

// P12.1: what was moved, what it left behind, and what came back; the first seat counts as of the level 1.
func TestOfMoved(t *testing.T) {
	for _, level := range []string{"<", "<<", "<<<", "="} {
		o := ordered(t, "& a "+level+" b << c & z < a")
		weighs(t, o, 'a', "b", "1.32.32", "c", "1.33.32")
		weighs(t, o, 'z', "z", "1.32.32", "a", "2.32.32")
	}
	o := ordered(t, "& a < b << c <<< d & z < b")
	weighs(t, o, 'a', "a", "1.32.32", "c", "2.32.32", "d", "2.32.33")
	weighs(t, o, 'z', "b", "2.32.32")
	o = ordered(t, "& z < a << ch & ch < a & [before 1] a < y")
	weighs(t, o, 'z', "z", "1.32.32", "ch", "2.32.32", "y", "3.32.32", "a", "4.32.32")
	// Lists that became empty, and get a seat again.
	o = ordered(t, "& z < a & [last] < a & [first] < ch & [last] < ch & [first] < q")
	weighs(t, o, api.ListLast, "a", "1.32.32", "ch", "2.32.32")
	weighs(t, o, api.ListFirst, "q", "1.32.32")
	o = ordered(t, "& [ignored] << m <<< n & a < m < n & [ignored] <<< q")
	weighs(t, o, api.ListIgnored, "q", "0.0.33")
	o = ordered(t, "& [ignored] << m <<< n <<< o & a < m < o")
	weighs(t, o, api.ListIgnored, "n", "0.33.32")
	weighs(t, o, 'a', "m", "2.32.32", "o", "3.32.32")
	// What stands ahead of a list's first seat is the first one.
	o = ordered(t, "& [before 1] a < b << c")
	weighs(t, o, 'a', "b", "1.32.32", "c", "1.33.32", "a", "2.32.32")
}

// P12.1: an Extend weighs nothing here.
func TestOfExtend(t *testing.T) {
	o := ordered(t, "& a << ch / h <<< Ch / xyz < d / d")
	weighs(t, o, 'a', "ch", "1.33.32", "Ch", "1.33.33", "d", "2.32.32", "xyz", "none", "chh", "none")
}

// letter is a text for a place in a row.
func letter(i int) string { return string(rune(0x4e00 + i)) }

// row are rules whose relations have these levels, behind a reset.
func row(begin api.Rule, levels []int) api.Rules {
	items := []api.Rule{begin}
	for i, n := range levels {
		items = append(items, relation(n, letter(i)))
	}
	return of(items...)
}

// P12.1, P12.4: rows of seats of all levels, one behind the other, in each kind of list.
func TestOfRows(t *testing.T) {
	var every func(list rune, begin api.Rule, levels []int)
	every = func(list rune, begin api.Rule, levels []int) {
		o := built(t, row(begin, levels))
		holds(t, o, list)
		if len(levels) == 5 {
			return
		}
		for n := 1; n <= 4; n++ {
			first := len(levels) == 0 && begin.Anchor != api.ANone
			if list == api.ListIgnored && n == 1 || list != api.ListIgnored && first && n != 1 {
				continue // no order has such a seat
			}
			every(list, begin, append(slices.Clip(levels), n))
		}
	}
	every('a', reset("a"), nil)
	every(0x1100ff, reset("\xff"), nil)
	every(api.ListFirst, anchored(api.AFirst), nil)
	every(api.ListLast, anchored(api.ALast), nil)
	every(api.ListIgnored, anchored(api.AIgnored), nil)
}

// P12.1: the longest rows of one level: no number gets into another one's room.
func TestOfLongRows(t *testing.T) {
	for level := 1; level <= 4; level++ {
		for list, begin := range map[rune]api.Rule{'a': reset("a"), 0: reset("\x00"), api.ListIgnored: anchored(api.AIgnored)} {
			if list == api.ListIgnored && level == 1 {
				continue
			}
			o := built(t, row(begin, slices.Repeat([]int{level}, api.MaxRules-1)))
			want := api.Weight{Second: 32, Third: 32}
			n := uint32(api.MaxRules - 1)
			if list == api.ListIgnored {
				want.Second, want.Third = 0, 0
			} else {
				want.First = number(list)*1048576 + 1
			}
			switch level {
			case 1:
				want.First += uint64(n)
			case 2:
				want.Second, want.Third = 32+n, 32
			case 3:
				want.Third = 32 + n
			}
			if w, ok := weights.Of(o, letter(int(n)-1)); w != want || !ok {
				t.Errorf("level %d of %x: %v, want %v", level, list, w, want)
			}
		}
	}
}

// holds holds what the seats of a list weigh against the second way, and P12.4 of each two of them against the document's words.
func holds(t *testing.T, o *order.Order, list rune) {
	t.Helper()
	l := o.List(list)
	all := make([]api.Weight, len(l))
	for i, x := range l {
		w, ok := weights.Of(o, x.Text)
		if want := weighed(list, l, i); w != want || !ok {
			t.Fatalf("%v, number %d: %v %t, want %v", l, i, w, ok, want)
		}
		all[i] = w
		if list == api.ListIgnored && (x.Level == 2 && w.Second == 0 || x.Level == 3 && w.Third == 0) {
			t.Fatalf("%v, number %d: %v weighs no more than nothing", l, i, w)
		}
	}
	for i, w := range all {
		least := 4
		for j, more := range all[i+1:] {
			least = min(least, l[i+1+j].Level)
			if got := unlike(w, more); got != least {
				t.Fatalf("%v: %v and %v behind it: the level %d, want %d", l, w, more, got, least)
			}
		}
	}
}

// unlike is the first level at which the second one of two weighs more; 4, if they weigh the same; 0, if it weighs less.
func unlike(a, b api.Weight) int {
	for i, x := range [][2]uint64{{a.First, b.First}, {uint64(a.Second), uint64(b.Second)}, {uint64(a.Third), uint64(b.Third)}} {
		switch {
		case x[0] < x[1]:
			return i + 1
		case x[0] > x[1]:
			return 0
		}
	}
	return 4
}

// texts are those of which rules by chance speak.
var texts = []string{"a", "b", "c", "d", "ch", "\u00c0", "A\u0300\u0301", "\xff", "\x80", "\u0301", "\uac01", "ab", "A", "\x00"}

// someRules are rules by chance: items that are wrong are left out.
func someRules(p *props.Props, c *chance, n int) api.Rules {
	var items []api.Rule
	for range n {
		x := relation(1+c.below(4), texts[c.below(len(texts))])
		if c.below(4) == 0 {
			x = reset(texts[c.below(len(texts))])
			x.Before = c.below(3) == 0
		} else if c.below(10) == 0 {
			x = anchored(1 + c.below(3))
		}
		if _, e := order.Build(p, of(append(items, x)...)); e == nil {
			items = append(items, x)
		}
	}
	return of(items...)
}

// P12.1, P12.4: seats of rules by chance; of two lists each seat of the greater one has the greater First.
func TestOfByChance(t *testing.T) {
	p := parsed(t)
	c := chance(12)
	for range 300 {
		o := built(t, someRules(p, &c, 60))
		most := uint64(0)
		for _, list := range []rune{api.ListIgnored, api.ListFirst, 0, 1, 'A', 'a', 'b', 'c', 'd', 'e', 0x301, 0x10ffff, 0x110080, 0x110081, 0x1100ff, api.ListLast} {
			holds(t, o, list)
			least := most
			for _, x := range o.List(list) {
				w, _ := weights.Of(o, x.Text)
				if list == api.ListIgnored && w.First != 0 || list != api.ListIgnored && w.First <= least {
					t.Fatalf("%v: %v, ahead of its list %d", x, w, least)
				}
				most = max(most, w.First)
			}
		}
	}
}

// P12.4: lists side by side, each as long as it may be.
func TestListsSideBySide(t *testing.T) {
	half := slices.Repeat([]int{1}, api.MaxRules/2-1)
	first := row(anchored(api.AFirst), half).Items
	o := built(t, of(append(first, row(reset("\x00"), half).Items...)...))
	// The second row has taken the first one's texts.
	if w, ok := weights.Of(o, letter(len(half)-1)); !ok || w.First != 3*1048576+uint64(len(half))+1 || w.First >= weights.Plain(1).First {
		t.Error(w, ok)
	}
	o = built(t, row(anchored(api.AFirst), slices.Repeat([]int{1}, api.MaxRules-1)))
	if w, ok := weights.Of(o, letter(api.MaxRules-2)); !ok || w.First != 2*1048576+api.MaxRules-1 || w.First >= weights.Plain(0).First {
		t.Error(w, ok)
	}
}

// P12.2: the chapter's examples, the edges of points, and what is none.
func TestPlainExamples(t *testing.T) {
	for r, want := range map[rune]uint64{
		0x61: 0x64*1048576 + 1, 0: 3*1048576 + 1, 0x1100ff: 0x110102*1048576 + 1,
		1: 4*1048576 + 1, 0x7f: 0x82*1048576 + 1, 0xc0: 0xc3*1048576 + 1, 0xac01: 0xac04*1048576 + 1, 0xfffd: 0x10000*1048576 + 1,
		0xd7ff: 0xd802*1048576 + 1, 0xe000: 0xe003*1048576 + 1, 0xffff: 0x10002*1048576 + 1, 0x10000: 0x10003*1048576 + 1,
		0x10ffff: 0x110002*1048576 + 1, 0x110080: 0x110083*1048576 + 1, 0x1100c3: 0x1100c6*1048576 + 1,
	} {
		if w := weights.Plain(r); w != (api.Weight{First: want, Second: 32, Third: 32}) {
			t.Errorf("Plain(%x): %v, want %d", r, w, want)
		}
	}
	for _, r := range []rune{0xd800, 0xdbff, 0xdc00, 0xdfff, 0x110000, 0x110041, 0x11007f, 0x110100, 0x110101, -1, -2, -3, -4, -0x61, math.MaxInt32, math.MinInt32, 0x110000 + 0x110080} {
		if w := weights.Plain(r); w != (api.Weight{}) {
			t.Errorf("Plain(%x): %v", r, w)
		}
	}
}

// P12.2: of all numbers about the points: it rises from point to point.
func TestPlain(t *testing.T) {
	last := uint64(0)
	for r := rune(-300); r < 0x110300; r++ {
		w := weights.Plain(r)
		if _, e := points.Text([]rune{r}); e != nil {
			if w != (api.Weight{}) {
				t.Fatalf("Plain(%x): %v", r, w)
			}
			continue
		}
		if w != (api.Weight{First: uint64(r+3)*1048576 + 1, Second: 32, Third: 32}) || w.First <= last {
			t.Fatalf("Plain(%x): %v, ahead of it %d", r, w, last)
		}
		last = w.First
	}
}

// P12.2: what rules say has no bearing on what is plain.
func TestPlainBesideRules(t *testing.T) {
	o := ordered(t, "& z < a & [before 1] b < y")
	weighs(t, o, 'z', "a", "2.32.32")
	weighs(t, o, 'b', "y", "1.32.32", "b", "2.32.32")
	for _, r := range []rune("aby") {
		if w := weights.Plain(r); w.First != uint64(r+3)*1048576+1 {
			t.Errorf("Plain(%x): %v", r, w)
		}
	}
}

// R4, R5: an order stays as it is, and many may ask it at a time; each asks its own.
func TestOfAlone(t *testing.T) {
	o, other := ordered(t, "& a < b << c"), ordered(t, "& z < a < b = c")
	var all sync.WaitGroup
	for range 8 {
		all.Go(func() {
			for range 200 {
				if told(o, 'a', "c") != "2.33.32" || told(other, 'z', "c") != "3.32.32" {
					t.Error("Of")
				}
			}
		})
	}
	all.Wait()
	if l := o.List('a'); len(l) != 3 || l[2] != (api.Seat{Text: "c", List: 'a', Level: 2}) {
		t.Error(l)
	}
}
