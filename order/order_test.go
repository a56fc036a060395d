package order_test

import (
	"errors"
	"iter"
	"maps"
	"slices"
	"strconv"
	"strings"
	"testing"

	"glossary/api"
	"glossary/order"
	"glossary/points"
	"glossary/props"
	"glossary/rules"
)

// The calls have the signatures that the chapter lists.
var (
	_ func(*props.Props, api.Rules) (*order.Order, error) = order.Build
	_ func(*order.Order, rune) []api.Seat                 = (*order.Order).List
	_ func(*order.Order) iter.Seq[rune]                   = (*order.Order).Lists
	_ func(*order.Order, string) (api.Seat, int, bool)    = (*order.Order).Find
)

// file is chapter 6's file F, with lines of points that decompose to many.
const file = "class 0300..0304 230\nclass 0327 202 # below\nclass 0302 0\nkind 0041..005A letter\nfold 0041 0061\ndecomp 00C0 0041 0300\ndecomp 1EA6 00C0 0301\ndecomp 00C5 0041 0300\n" +
	"decomp 2126 03A9\ndecomp 0132 0031 0032 0033 0034 0035 0036 0037 0038\n"

// known are points of which the tests' rules may speak, and others.
var known = points.Of("abcdefghijklmnopqrstuvwxyzABC12345678 \u0300\u0301\u0302\u0327\u00c0\u00c5\u0132\u03a9\u2126\u1100\u1161\u11a8\uac00\uac01\x00\x7f\u0080\uffff\U0010ffff\x80\xc3\xff")

// noLists are numbers of no list.
var noLists = []rune{-1 << 31, -4, -3, 0xd800, 0xdbff, 0xdc00, 0xdfff, 0x110000, 0x11007f, 0x110101, 0x110102, 1<<31 - 1}

// parsed are the properties of a file that is right.
func parsed(t *testing.T, s string) *props.Props {
	t.Helper()
	p, e := props.Parse(s)
	if e != nil {
		t.Fatalf("Parse(%.200q): %v", s, e)
	}
	return p
}

// read are rules as a file tells them.
func read(t *testing.T, s string) api.Rules {
	t.Helper()
	r, e := rules.Parse(s)
	if e != nil {
		t.Fatalf("Parse(%.200q): %v", s, e)
	}
	return r
}

// of are rules of these items.
func of(items ...api.Rule) api.Rules {
	return api.Rules{Options: api.Options{Strength: 3}, Items: items}
}

func reset(text string) api.Rule { return api.Rule{Kind: api.RReset, Text: text, Line: 1} }
func before(text string) api.Rule {
	return api.Rule{Kind: api.RReset, Text: text, Before: true, Line: 1}
}
func anchored(anchor int) api.Rule {
	return api.Rule{Kind: api.RReset, Anchor: anchor, Line: 1}
}
func relation(level int, text string) api.Rule {
	return api.Rule{Kind: api.RRelation, Level: level, Text: text, Line: 1}
}
func extended(level int, text, extend string) api.Rule {
	return api.Rule{Kind: api.RRelation, Level: level, Text: text, Extend: extend, Line: 1}
}

// at is an item on another line.
func at(line int, x api.Rule) api.Rule {
	x.Line = line
	return x
}

// told are seats as the tests write them: Level, Text, and, if there is one, / and Extend.
func told(l []api.Seat) string {
	var all []string
	for _, x := range l {
		s := strconv.Itoa(x.Level) + x.Text
		if x.Extend != "" {
			s += "/" + x.Extend
		}
		all = append(all, s)
	}
	return strings.Join(all, " ")
}

// shown are items as a failure tells them.
func shown(items []api.Rule) string {
	s := ""
	for _, x := range items {
		s += " " + strconv.Itoa(x.Kind) + ":" + strconv.Itoa(x.Anchor) + strconv.FormatBool(x.Before)[:1] + strconv.Itoa(x.Level) + strconv.Quote(x.Text) + strconv.Quote(x.Extend)
	}
	return s[:min(len(s), 400)]
}

// ordered is the order of rules that are right.
func ordered(t *testing.T, p *props.Props, r api.Rules) *order.Order {
	t.Helper()
	o, e := order.Build(p, r)
	if e != nil || o == nil {
		t.Fatalf("Build(%s): %v", shown(r.Items), e)
	}
	return o
}

// refused says what is amiss with an answer that should be this fault; "", if nothing is.
func refused(o *order.Order, e error, want api.Fault) string {
	var f api.Fault
	switch {
	case o != nil:
		return "an order beside the error"
	case e == nil:
		return "no error"
	case !errors.As(e, &f):
		return "no place"
	case f != want:
		return f.Error() + " at " + strconv.Itoa(f.Line) + ":" + strconv.Itoa(f.At)
	}
	for no := api.OK; no <= api.ErrBracket; no++ {
		if errors.Is(e, no) != (no == want.No) {
			return "it is, or isn't: " + no.Error()
		}
	}
	return ""
}

// refuses holds that rules are refused, and for what.
func refuses(t *testing.T, p *props.Props, r api.Rules, no api.Errno, line int) {
	t.Helper()
	o, e := order.Build(p, r)
	if s := refused(o, e, api.Fault{No: no, Line: line}); s != "" {
		t.Errorf("Build(%s), want %v at %d: %s", shown(r.Items), no, line, s)
	}
	check(t, p, r)
}

// check holds what is told of rules against the second way.
func check(t *testing.T, p *props.Props, r api.Rules) {
	t.Helper()
	want, f := built(p, r)
	o, e := order.Build(p, r)
	if want == nil {
		if s := refused(o, e, f); s != "" {
			t.Fatalf("Build(%s), want %v: %s", shown(r.Items), f, s)
		}
		return
	}
	if e != nil {
		t.Fatalf("Build(%s): %v", shown(r.Items), e)
	}
	if got := slices.Collect(o.Lists()); !slices.Equal(got, want.lists()) {
		t.Fatalf("Lists of %s: %x, want %x", shown(r.Items), got, want.lists())
	}
	for _, r := range known {
		want.open(r)
	}
	found := 0
	for _, list := range slices.Concat(slices.Collect(maps.Keys(want.points)), []rune{api.ListIgnored, api.ListFirst, api.ListLast}, noLists) {
		l := o.List(list)
		if !slices.Equal(l, want.seats(list)) {
			t.Fatalf("List(%x) of %s: %q, want %q", list, shown(r.Items), told(l), told(want.seats(list)))
		}
		follows(t, o, list, l)
		found += len(l)
	}
	if found != len(want.links) {
		t.Fatalf("%s: %d seats, want %d", shown(r.Items), found, len(want.links))
	}
	for _, x := range r.Items {
		checkFind(t, o, want, x.Text)
		checkFind(t, o, want, x.Extend)
		checkFind(t, o, want, x.Text+x.Extend)
	}
}

// checkFind holds what is found of a text against the second way.
func checkFind(t *testing.T, o *order.Order, want *chains, text string) {
	t.Helper()
	seat, i, ok := o.Find(text)
	s, _ := want.decomposed(text)
	x := want.link(s)
	if x == nil {
		if ok || i != 0 || seat != (api.Seat{}) {
			t.Fatalf("Find(%.100q): %v %d %v, want none", text, seat, i, ok)
		}
		return
	}
	n := 0
	for y := x.ahead; y != nil; y = y.ahead {
		n++
	}
	if !ok || i != n || seat != x.seat {
		t.Fatalf("Find(%.100q): %v %d %v, want %v %d", text, seat, i, ok, x.seat, n)
	}
}

// lists are what is told of some lists, by their numbers.
type lists map[rune]string

// holds holds lists against what is written, and the whole against the second way.
func holds(t *testing.T, p *props.Props, r api.Rules, want lists) {
	t.Helper()
	o := ordered(t, p, r)
	for list, s := range want {
		if got := told(o.List(list)); got != s {
			t.Errorf("List(%x) of %s: %q, want %q", list, shown(r.Items), got, s)
		}
	}
	check(t, p, r)
}

// P11.1, P11.2: the chapter's examples of lists.
func TestExamples(t *testing.T) {
	p := parsed(t, file)
	for _, x := range []struct {
		file string
		want lists
	}{
		{"& a < b << c <<< d = e\n& b << f", lists{'a': "1a 1b 2f 2c 3d 4e", 'b': "", 'c': "", 'd': "", 'e': "", 'f': ""}},
		{"& a < b < c & b <<< x & a << y", lists{'a': "1a 2y 1b 3x 1c"}},
		{"& a < b << c & z < b", lists{'a': "1a 1c", 'z': "1z 1b"}},
		{"& z < a", lists{'z': "1z 1a", 'a': ""}},
		{"& [before 1] c < x", lists{'c': "1x 1c"}},
		{"& [before 1] c < x & [before 1] x < y", lists{'c': "1y 1x 1c"}},
		{"& c << d & [before 1] d < x << e", lists{'c': "1x 2e 1c 2d"}},
		{"& [ignored] << x <<< y & [ignored] << z", lists{api.ListIgnored: "2x 3y 2z"}},
		{"& [last] < ch < x & [first] < q", lists{api.ListLast: "1ch 1x", api.ListFirst: "1q"}},
		{"& a << ch & ch <<< Ch / c", lists{'a': "1a 2ch 3Ch/c"}},
	} {
		holds(t, p, read(t, x.file), x.want)
	}
}

// P11.1: a seat that is taken out hands its Level on to the one behind it, where that has a greater one.
func TestTakenOut(t *testing.T) {
	p := parsed(t, file)
	for _, x := range []struct {
		file string
		want lists
	}{
		{"& a < b << c << d <<< e & z < c", lists{'a': "1a 1b 2d 3e"}},          // an equal one
		{"& a < b << c <<< d <<< e & z < c", lists{'a': "1a 1b 2d 3e"}},         // a greater one
		{"& a < b <<< c << d <<< e & z < c", lists{'a': "1a 1b 2d 3e"}},         // a lesser one
		{"& a < b << c <<< d = e & z < d", lists{'a': "1a 1b 2c 3e"}},           // 3 ahead of 4
		{"& a < b << c <<< d & z < d", lists{'a': "1a 1b 2c", 'z': "1z 1d"}},    // at the end
		{"& a << b <<< c = d & z < a", lists{'a': "1b 3c 4d", 'z': "1z 1a"}},    // at the beginning: the list stays with its number
		{"& a << b & z < a < b", lists{'a': "", 'z': "1z 1a 1b"}},               // the only one
		{"& a << b = c & z < a & y < b", lists{'a': "1c", 'y': "1y 1b"}},        // one behind the other
		{"& [ignored] << x <<< y = w & z < x", lists{api.ListIgnored: "2y 4w"}}, // where nothing has the Level 1
		{"& [last] < x = y & z < x", lists{api.ListLast: "1y"}},
		{"& [first] < x <<< y & z < x & [first] << w", lists{api.ListFirst: "1y 2w"}},
	} {
		holds(t, p, read(t, x.file), x.want)
	}
}

// P11.1: a text is put behind all seats with greater Levels that follow straight behind, and no further.
func TestPut(t *testing.T) {
	p := parsed(t, file)
	for _, x := range []struct {
		file string
		want lists
	}{
		{"& a << b <<< c = d < e & a < x", lists{'a': "1a 2b 3c 4d 1x 1e"}},
		{"& a << b <<< c = d < e & a << x", lists{'a': "1a 2x 2b 3c 4d 1e"}}, // an equal one stands behind
		{"& a << b <<< c = d < e & a <<< x", lists{'a': "1a 3x 2b 3c 4d 1e"}},
		{"& a << b <<< c = d < e & b << x", lists{'a': "1a 2b 3c 4d 2x 1e"}},
		{"& a << b <<< c = d < e & b <<< x", lists{'a': "1a 2b 3x 3c 4d 1e"}},
		{"& a << b <<< c = d < e & b = x", lists{'a': "1a 2b 4x 3c 4d 1e"}},
		{"& a << b <<< c = d < e & c <<< x", lists{'a': "1a 2b 3c 4d 3x 1e"}},
		{"& a << b <<< c = d < e & c = x", lists{'a': "1a 2b 3c 4x 4d 1e"}},
		{"& a << b <<< c = d < e & c < x", lists{'a': "1a 2b 3c 4d 1x 1e"}},
		{"& a << b <<< c = d < e & d < x", lists{'a': "1a 2b 3c 4d 1x 1e"}},
		{"& a << b <<< c = d < e & e = x", lists{'a': "1a 2b 3c 4d 1e 4x"}}, // at the end
		{"& a = b << c = d & a <<< x", lists{'a': "1a 4b 3x 2c 4d"}},        // only those straight behind: not d
		{"& a = b = c <<< d & a <<< x", lists{'a': "1a 4b 4c 3x 3d"}},
		{"& [ignored] << a = b <<< c << d & a << x", lists{api.ListIgnored: "2a 4b 3c 2x 2d"}},
		{"& [last] < a = b <<< c & [last] = x", lists{api.ListLast: "1a 4b 3c 4x"}}, // of a list: behind the last one
		{"& [last] < a << b & [last] < x << y", lists{api.ListLast: "1a 2b 1x 2y"}},
		{"& a < b < c & a < d < e", lists{'a': "1a 1d 1e 1b 1c"}}, // the anchor goes on with what was put
	} {
		holds(t, p, read(t, x.file), x.want)
	}
}

// P11.1: a text that has a seat is moved: within its list and out of it, ahead of the anchor and behind it.
func TestMoved(t *testing.T) {
	p := parsed(t, file)
	for _, x := range []struct {
		file string
		want lists
	}{
		{"& a < b < c < d & b < d", lists{'a': "1a 1b 1d 1c"}},
		{"& a < b < c < d & c < a", lists{'a': "1b 1c 1a 1d"}}, // the point of the list itself
		{"& a < b < c < d & c << b", lists{'a': "1a 1c 2b 1d"}},
		{"& a < b < c < d & a << b", lists{'a': "1a 2b 1c 1d"}}, // where it stands
		{"& a < b << c <<< d & a << b", lists{'a': "1a 2b 1c 3d"}},
		{"& a << b <<< c <<< d & a << c", lists{'a': "1a 2c 2b 3d"}},
		{"& a << b <<< c = d & a <<< b", lists{'a': "1a 3b 2c 4d"}}, // c has got the Level 2 when b is put
		{"& a << b <<< c = d & a <<< c", lists{'a': "1a 3c 2b 3d"}},
		{"& a <<< b = c & a <<< b", lists{'a': "1a 3b 3c"}},
		{"& a << b & c << d & d <<< b", lists{'a': "1a", 'c': "1c 2d 3b"}},
		{"& a < b & c < a & b < a", lists{'a': "1b 1a", 'c': "1c"}}, // there and back
		{"& a < b & b < c & c < b & a < c", lists{'a': "1a 1c 1b"}},
		{"& [last] < x < y & [last] < x", lists{api.ListLast: "1y 1x"}},
		{"& [last] < x & [last] < x", lists{api.ListLast: "1x"}}, // the only one
		{"& [last] < x < y & [last] <<< x", lists{api.ListLast: "1y 3x"}},
		{"& [last] < x < y & [last] <<< y", lists{api.ListLast: "1x 3y"}}, // the last one itself
		{"& [ignored] << x & [ignored] = x", lists{api.ListIgnored: "4x"}},
		{"& [ignored] << x & [last] < x", lists{api.ListIgnored: "", api.ListLast: "1x"}},
		{"& [first] < x & [ignored] <<< x", lists{api.ListIgnored: "3x", api.ListFirst: ""}},
		{"& [last] < a & a << b & [ignored] <<< a", lists{'a': "", api.ListLast: "1b", api.ListIgnored: "3a"}},
		{"& a << ch / c & a <<< ch", lists{'a': "1a 3ch"}}, // its Extend goes
		{"& a << ch / c & b <<< ch / d", lists{'a': "1a", 'b': "1b 3ch/d"}},
	} {
		holds(t, p, read(t, x.file), x.want)
	}
}

// P11.1: what is put ahead stands ahead of the head, whatever seat was told.
func TestBefore(t *testing.T) {
	p := parsed(t, file)
	for _, x := range []struct {
		file string
		want lists
	}{
		{"& a < b << c & [before 1] b < x", lists{'a': "1a 1x 1b 2c"}}, // its own head
		{"& a < b << c & [before 1] c < x", lists{'a': "1a 1x 1b 2c"}},
		{"& a < b << c <<< d = e < f & [before 1] e < x", lists{'a': "1a 1x 1b 2c 3d 4e 1f"}}, // far ahead
		{"& a < b << c & [before 1] a < x = y", lists{'a': "1x 4y 1a 1b 2c"}},                 // the first of its list
		{"& a < b << c & [before 1] c < c", lists{'a': "1a 1c 1b"}},                           // the seat itself is moved, for its head is another one
		{"& a < b << c <<< d & [before 1] d < c", lists{'a': "1a 1c 1b 2d"}},                  // one between
		{"& a < b << c & [before 1] c < a", lists{'a': "1a 1b 2c"}},                           // one that stands there
		{"& a < b < c & [before 1] c < a", lists{'a': "1b 1a 1c"}},                            // one ahead
		{"& a < b < c & [before 1] a < c", lists{'a': "1c 1a 1b"}},                            // one behind
		{"& a << b = c & [before 1] c < b", lists{'a': "1b 1a 2c"}},
		{"& a < b & z < y & [before 1] y < b", lists{'a': "1a", 'z': "1z 1b 1y"}},
		{"& [last] < x << y & [before 1] y < w", lists{api.ListLast: "1w 1x 2y"}},
		{"& [first] < x & [before 1] x < w < v", lists{api.ListFirst: "1w 1v 1x"}},
		{"& a << b & [before 1] b < x & b << y", lists{'a': "1x 1a 2b 2y"}}, // the next reset is as any other
		{"& a << b & [before 1] b & b << y", lists{'a': "1a 2b 2y"}},        // a reset that nothing follows
		{"& [before 1] a < x / b", lists{'a': "1x/b 1a"}},
		{"& [before 1] a < x < y << z", lists{'a': "1x 1y 2z 1a"}},
	} {
		holds(t, p, read(t, x.file), x.want)
	}
	// The second relation may have the head's own text: its anchor is another seat.
	holds(t, p, of(before("a"), relation(1, "x"), relation(2, "a")), lists{'a': "1x 2a"})
	refuses(t, p, of(before("a"), relation(1, "x"), at(3, relation(2, "x"))), api.ErrArg, 3)
}

// P11.1: lists that belong to no point, while they are empty and when they are not.
func TestAnchors(t *testing.T) {
	p := parsed(t, file)
	for _, x := range []struct {
		file string
		want lists
	}{
		{"& [ignored] << a", lists{api.ListIgnored: "2a", 'a': ""}},
		{"& [ignored] <<< a", lists{api.ListIgnored: "3a"}},
		{"& [ignored] = a = b", lists{api.ListIgnored: "4a 4b"}},
		{"& [first] < a << b", lists{api.ListFirst: "1a 2b"}},
		{"& [last] < a << b", lists{api.ListLast: "1a 2b"}},
		{"& [first] < a & [first] = b & [first] < c", lists{api.ListFirst: "1a 4b 1c"}},
		{"& [first] < a & [last] < b & [ignored] << c", lists{api.ListFirst: "1a", api.ListLast: "1b", api.ListIgnored: "2c"}},
		{"& [ignored] & [first] & [last] & a << x", lists{'a': "1a 2x"}}, // the last reset holds
	} {
		holds(t, p, read(t, x.file), x.want)
	}
	// Of a reset to a list neither Text, Level nor Extend are looked at; of one to a text neither Level nor Extend; of a relation neither Before nor Anchor.
	long := strings.Repeat("a", 9)
	holds(t, p, of(api.Rule{Kind: api.RReset, Anchor: api.ALast, Text: long, Level: 9, Extend: long}, relation(1, "x")), lists{api.ListLast: "1x"})
	holds(t, p, of(api.Rule{Kind: api.RReset, Text: "a", Level: -1, Extend: long}, relation(2, "x")), lists{'a': "1a 2x"})
	holds(t, p, of(reset("a"), api.Rule{Kind: api.RRelation, Level: 2, Text: "x", Before: true, Anchor: 9}), lists{'a': "1a 2x"})
}

// P11.1: texts and Extends are decomposed first, ill-formed ones too.
func TestTexts(t *testing.T) {
	p := parsed(t, file)
	for _, x := range []struct {
		items []api.Rule
		want  lists
	}{
		{[]api.Rule{reset("a"), extended(1, "\u00c0", "\u1ea6")}, lists{'a': "1a 1A\u0300/A\u0300\u0301", 0xc0: ""}},
		{[]api.Rule{reset("a"), relation(1, "A\u0300"), reset("\u00c0"), relation(2, "b"), relation(1, "\u00c5")}, lists{'a': "1a 1b 1A\u0300"}},
		{[]api.Rule{reset("a"), extended(1, "x\u0301\u0327", "\u0300\u0327")}, lists{'a': "1a 1x\u0327\u0301/\u0327\u0300"}}, // put in order
		{[]api.Rule{reset("\u2126"), relation(1, "a")}, lists{0x3a9: "1\u03a9 1a", 0x2126: ""}},                              // to one other point
		{[]api.Rule{reset("a"), relation(1, "\u2126")}, lists{0x3a9: "", 'a': "1a 1\u03a9"}},
		{[]api.Rule{reset("a"), relation(1, "\uac01")}, lists{'a': "1a 1\u1100\u1161\u11a8"}}, // Hangul
		{[]api.Rule{reset("\xff"), relation(1, "a"), relation(2, "\x80")}, lists{0x1100ff: "1\xff 1a 2\x80", 0x110080: ""}},
		{[]api.Rule{reset("a"), extended(1, "\xc3", "\xc3\x28\xff"), relation(1, "\xc3\xa9"), relation(1, "\xa9\xc3")}, lists{'a': "1a 1\xc3/\xc3(\xff 1\u00e9 1\xa9\xc3"}},
		{[]api.Rule{reset("\ufffd"), relation(1, "\xef\xbf")}, lists{0xfffd: "1\ufffd 1\xef\xbf"}}, // no ill-formed byte
		{[]api.Rule{reset("\x00"), relation(1, "\U0010ffff")}, lists{0: "1\x00 1\U0010ffff", 0x10ffff: ""}},
		{[]api.Rule{reset("\u0300"), relation(2, "\u0301")}, lists{0x300: "1\u0300 2\u0301"}},
	} {
		o := ordered(t, p, of(x.items...))
		for list, s := range x.want {
			if got := told(o.List(list)); got != s {
				t.Errorf("List(%x) of %s: %q, want %q", list, shown(x.items), got, s)
			}
		}
	}
	refuses(t, p, of(reset("a"), relation(1, "A\u0300"), at(2, relation(1, "\u00c0"))), api.ErrArg, 2)
	refuses(t, p, of(reset("a"), at(2, relation(1, "\xff")), at(3, relation(2, "\xff"))), api.ErrArg, 3)
	refuses(t, p, of(reset("\u2126"), at(2, relation(1, "\u03a9"))), api.ErrArg, 2)
}

// P11.1: the properties that are handed in say what is decomposed.
func TestOtherProps(t *testing.T) {
	r := of(reset("\u00c0"), relation(1, "x"))
	refuses(t, parsed(t, file), r, api.ErrReset, 1)
	holds(t, parsed(t, ""), r, lists{0xc0: "1\u00c0 1x"})
	holds(t, parsed(t, "decomp 00C0 0062\n"), r, lists{'b': "1b 1x", 0xc0: ""})
	p := parsed(t, "decomp 0061 0062\n")
	holds(t, p, of(reset("a"), relation(1, "c")), lists{'a': "", 'b': "1b 1c"})
	if o := ordered(t, p, of()); told(o.List('a')) != "" || told(o.List('b')) != "1b" {
		t.Errorf("%q %q", told(o.List('a')), told(o.List('b')))
	}
}

// P11.2: numbers that are no list's; points with an own decomposition and without; all as answered, and as rules have left them.
func TestList(t *testing.T) {
	p := parsed(t, file)
	for _, r := range []api.Rules{of(), of(reset("a"), relation(1, "b"), reset("\xff"), relation(1, "\x80"))} {
		o := ordered(t, p, r)
		for _, list := range noLists {
			if l := o.List(list); len(l) != 0 {
				t.Errorf("List(%x): %v", list, l)
			}
		}
		for list, want := range (lists{0: "1\x00", 0x7f: "1\x7f", 'A': "1A", 0x300: "1\u0300", 0xd7ff: "1\ud7ff", 0xe000: "1\ue000", 0xfffd: "1\ufffd", 0xffff: "1\uffff", 0x10000: "1\U00010000", 0x10ffff: "1\U0010ffff",
			0x1100fe: "1\xfe", 0x110081: "1\x81", 0x1100: "1\u1100", 0xabff: "1\uabff", 0xd7a4: "1\ud7a4", 0xc0: "", 0xc5: "", 0x1ea6: "", 0x2126: "", 0xac00: "", 0xac01: "", 0xd7a3: "", -2: "", -1: "", 0x110100: ""}) {
			l := o.List(list)
			if told(l) != want || len(l) == 1 && l[0].List != list {
				t.Errorf("List(%x): %v, want %q", list, l, want)
			}
		}
	}
}

// P11.3: lists that were touched, rising, each once, whatever became of them.
func TestLists(t *testing.T) {
	p := parsed(t, file)
	for _, x := range []struct {
		file string
		want []rune
	}{
		{"", nil},
		{"& a & b & [last] & [ignored] & [first] & [before 1] c", nil}, // nothing was put
		{"& [variable] = a", nil},
		{"& a < b", []rune{'a', 'b'}},
		{"& a < ch", []rune{'a'}}, // it had no seat
		{"& a < b < c < d & c < b & a << d", []rune{'a', 'b', 'c', 'd'}},
		{"& b < a", []rune{'a', 'b'}}, // that of a has become empty
		{"& [last] < x & [ignored] << x & [first] < x & y < x", []rune{-2, -1, 'x', 'y', 0x110100}},
		{"& a < b & c < b & d < b", []rune{'a', 'b', 'c', 'd'}}, // that of a has become what it was
		{"& [last] < x & [last] < x", []rune{'x', 0x110100}},    // put where it stood
		{"& \\xff < \\x80 & [first] < \\u{10ffff} < \\u{0}", []rune{-1, 0, 0x10ffff, 0x110080, 0x1100ff}},
		{"& z < y < x < w < v & m < l", []rune{'l', 'm', 'v', 'w', 'x', 'y', 'z'}},
	} {
		o := ordered(t, p, read(t, x.file))
		if got := slices.Collect(o.Lists()); !slices.Equal(got, x.want) {
			t.Errorf("Lists of %q: %x, want %x", x.file, got, x.want)
		}
		check(t, p, read(t, x.file))
	}
	o := ordered(t, p, read(t, "& c < b < a & [last] < x"))
	for n := range 6 {
		all := o.Lists()
		for range 2 { // it may be gone over again
			var got []rune
			for list := range all {
				if len(got) == n {
					break
				}
				got = append(got, list)
			}
			if want := []rune{'a', 'b', 'c', 'x', 0x110100}; !slices.Equal(got, want[:min(n, 5)]) {
				t.Errorf("stopped at %d: %x", n, got)
			}
		}
	}
}

// P11.4: texts with a seat and without one, that are only decomposed one, ill-formed ones, the empty one.
func TestFind(t *testing.T) {
	p := parsed(t, file)
	o := ordered(t, p, of(reset("z"), relation(1, "a"), reset("b"), relation(2, "ch"), extended(3, "\u1ea6", "\u00c0"), reset("\xff"), relation(1, "\xc3\x80\xc3"), anchored(api.AFirst), relation(1, "q"), anchored(api.AIgnored), relation(4, "\u0301")))
	for _, x := range []struct {
		text string
		want api.Seat
		at   int
	}{
		{"a", api.Seat{Text: "a", List: 'z', Level: 1}, 1},
		{"z", api.Seat{Text: "z", List: 'z', Level: 1}, 0},
		{"ch", api.Seat{Text: "ch", List: 'b', Level: 2}, 1},
		{"\u1ea6", api.Seat{Text: "A\u0300\u0301", List: 'b', Level: 3, Extend: "A\u0300"}, 2},
		{"\u00c0\u0301", api.Seat{Text: "A\u0300\u0301", List: 'b', Level: 3, Extend: "A\u0300"}, 2},
		{"A\u0300\u0301", api.Seat{Text: "A\u0300\u0301", List: 'b', Level: 3, Extend: "A\u0300"}, 2},
		{"\xff", api.Seat{Text: "\xff", List: 0x1100ff, Level: 1}, 0},
		{"\u00c0\xc3", api.Seat{Text: "A\u0300\xc3", List: 0x1100ff, Level: 1}, 1}, // C3 80 are a character
		{"\x80", api.Seat{Text: "\x80", List: 0x110080, Level: 1}, 0},
		{"q", api.Seat{Text: "q", List: -1, Level: 1}, 0},
		{"\u0301", api.Seat{Text: "\u0301", List: -2, Level: 4}, 0},
		{"y", api.Seat{Text: "y", List: 'y', Level: 1}, 0},
		{"\u2126", api.Seat{Text: "\u03a9", List: 0x3a9, Level: 1}, 0},
		{"\ufffd", api.Seat{Text: "\ufffd", List: 0xfffd, Level: 1}, 0},
	} {
		if seat, i, ok := o.Find(x.text); seat != x.want || i != x.at || !ok {
			t.Errorf("Find(%q): %v %d %v, want %v %d", x.text, seat, i, ok, x.want, x.at)
		}
	}
	for _, s := range []string{"", "cb", "c", "h", "\u00c0", "\u00c5", "A\u0301\u0300", "\xc3\xc3", "\xff\xff", "\uac01", "\uac00", "chc", "zch", "\xed\xa0\x80", strings.Repeat("a", 9), strings.Repeat("\u0300", 1000)} {
		if seat, i, ok := o.Find(s); (s == "c" || s == "h") != ok || !ok && (i != 0 || seat != (api.Seat{})) {
			t.Errorf("Find(%.100q): %v %d %v", s, seat, i, ok)
		}
	}
	o = ordered(t, p, of())
	if seat, i, ok := o.Find("A"); seat != (api.Seat{Text: "A", List: 'A', Level: 1}) || i != 0 || !ok {
		t.Errorf("%v %d %v", seat, i, ok)
	}
}
