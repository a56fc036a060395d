package ranges_test

import (
	"errors"
	"iter"
	"math"
	"slices"
	"sync"
	"testing"

	"glossary/api"
	"glossary/ranges"
)

// The calls have the signatures that the chapter lists.
var (
	_ func([]api.Span) (*ranges.Set, error)      = ranges.Of
	_ func(*ranges.Set, rune) bool               = (*ranges.Set).Has
	_ func(*ranges.Set, *ranges.Set) *ranges.Set = (*ranges.Set).Join
	_ func(*ranges.Set, *ranges.Set) *ranges.Set = (*ranges.Set).Both
	_ func(*ranges.Set, *ranges.Set) *ranges.Set = (*ranges.Set).Less
	_ func(*ranges.Set) *ranges.Set              = (*ranges.Set).Not
	_ func(*ranges.Set) []api.Span               = (*ranges.Set).Spans
	_ func(*ranges.Set) int                      = (*ranges.Set).Count
	_ func(*ranges.Set) iter.Seq[rune]           = (*ranges.Set).All
	_ func(string) (*ranges.Set, error)          = ranges.Parse
	_ func(*ranges.Set) string                   = ranges.Print
)

const total = 1112192

// set is that of spans.
func set(t *testing.T, l ...api.Span) *ranges.Set {
	t.Helper()
	s, e := ranges.Of(l)
	if s == nil || e != nil {
		t.Fatalf("Of(%x): %v", l, e)
	}
	return s
}

// refused tells what is wrong with an error that should be this one, at this place.
func refused(s *ranges.Set, e error, no api.Errno, at int) string {
	var f api.Fault
	switch {
	case s != nil:
		return "there is a set beside the error"
	case !errors.As(e, &f):
		return "no place is told"
	case f.No != no || f.Line != 0 || f.At != at:
		return "another place, or another number"
	}
	for n := api.OK; n <= api.ErrBracket; n++ {
		if errors.Is(e, n) != (n == no) {
			return "it is told to be what it isn't, or not what it is: " + n.Error()
		}
	}
	return ""
}

// wrongIn tells the first thing that is wrong with a set that should have these points, told number by number.
func wrongIn(s *ranges.Set, m marks) string {
	l := m.points()
	spans := spansOf(l)
	switch {
	case !slices.Equal(s.Spans(), spans):
		return "its Spans"
	case s.Count() != len(l):
		return "its Count"
	case !handsOut(s.All(), l):
		return "its points"
	case ranges.Print(s) != printedOf(spans):
		return "its form"
	}
	for r, in := range m {
		if s.Has(rune(r)) != in {
			return "Has of " + formOf(rune(r))
		}
	}
	for _, r := range beside {
		if s.Has(r) {
			return "it has what is no point"
		}
	}
	return ""
}

// handsOut tells whether an iterator hands out just these, and in this order.
func handsOut(l iter.Seq[rune], want []rune) bool {
	n := 0
	for r := range l {
		if n == len(want) || r != want[n] {
			return false
		}
		n++
	}
	return n == len(want)
}

// P3.1, P3.3: the chapter's examples, and spans that touch or nearly do.
func TestOfExamples(t *testing.T) {
	for _, x := range []struct{ in, want []api.Span }{
		{[]api.Span{{Lo: 0x61, Hi: 0x63}, {Lo: 0x70, Hi: 0x70}, {Lo: 0x62, Hi: 0x66}}, []api.Span{{Lo: 0x61, Hi: 0x66}, {Lo: 0x70, Hi: 0x70}}},
		{[]api.Span{{Lo: 0x41, Hi: 0x50}, {Lo: 0x51, Hi: 0x60}}, []api.Span{{Lo: 0x41, Hi: 0x60}}},
		{[]api.Span{{Lo: 0xd7ff, Hi: 0xd7ff}, {Lo: 0xe000, Hi: 0xe001}}, []api.Span{{Lo: 0xd7ff, Hi: 0xe001}}},
		{[]api.Span{{Lo: 0x10ffff, Hi: 0x10ffff}, {Lo: 0x110080, Hi: 0x110080}}, []api.Span{{Lo: 0x10ffff, Hi: 0x110080}}},
		{[]api.Span{{Lo: 0x41, Hi: 0x50}, {Lo: 0x52, Hi: 0x60}}, []api.Span{{Lo: 0x41, Hi: 0x50}, {Lo: 0x52, Hi: 0x60}}},
		{[]api.Span{{Lo: 0xd7fe, Hi: 0xd7fe}, {Lo: 0xe000, Hi: 0xe000}}, []api.Span{{Lo: 0xd7fe, Hi: 0xd7fe}, {Lo: 0xe000, Hi: 0xe000}}},
		{[]api.Span{{Lo: 0x10ffff, Hi: 0x10ffff}, {Lo: 0x110081, Hi: 0x110081}}, []api.Span{{Lo: 0x10ffff, Hi: 0x10ffff}, {Lo: 0x110081, Hi: 0x110081}}},
		{[]api.Span{{Lo: 0x30, Hi: 0x90}, {Lo: 0x40, Hi: 0x50}, {Lo: 0x70, Hi: 0x80}}, []api.Span{{Lo: 0x30, Hi: 0x90}}},
		{[]api.Span{{Lo: 5, Hi: 5}, {Lo: 5, Hi: 5}}, []api.Span{{Lo: 5, Hi: 5}}},
		{[]api.Span{{}}, []api.Span{{}}},
		{[]api.Span{{Lo: 0x1100ff, Hi: 0x1100ff}, {}}, []api.Span{{}, {Lo: 0x1100ff, Hi: 0x1100ff}}},
		{nil, nil}, {[]api.Span{}, nil},
	} {
		if got := set(t, x.in...).Spans(); !slices.Equal(got, x.want) {
			t.Errorf("Of(%x): %x; want %x", x.in, got, x.want)
		}
		if got := set(t, reversed(x.in)...).Spans(); !slices.Equal(got, x.want) {
			t.Errorf("Of(%x) from behind: %x; want %x", x.in, got, x.want)
		}
	}
}

// P3.1 to P3.4: sets of all kinds, held against the marks of all numbers.
func TestOf(t *testing.T) {
	for _, l := range some() {
		if wrong := wrongIn(set(t, l...), marksOf(l)); wrong != "" {
			t.Fatalf("Of(%x): %s", l, wrong)
		}
	}
}

// P3.1: wrong spans: the chapter's, and the first of several.
func TestOfRefuses(t *testing.T) {
	for _, x := range []struct {
		in []api.Span
		no api.Errno
		at int
	}{
		{[]api.Span{{Lo: 0xd800, Hi: 0xe000}}, api.ErrPoint, 0},
		{[]api.Span{{}, {Lo: 0x63, Hi: 0x61}}, api.ErrArg, 1},
		{[]api.Span{{Lo: 0, Hi: 0x110000}}, api.ErrPoint, 0},
		{[]api.Span{{Lo: 0xe000, Hi: 0xd7ff}}, api.ErrArg, 0},
		{[]api.Span{{Lo: 0x110080, Hi: 0x10ffff}}, api.ErrArg, 0},
		{[]api.Span{{Lo: 0xe000, Hi: 0xd800}}, api.ErrPoint, 0}, // no point, and the wrong way about
		{[]api.Span{{Lo: 0x61, Hi: -1}}, api.ErrPoint, 0},
		{[]api.Span{{Lo: 0x110100, Hi: 0}}, api.ErrPoint, 0},
		{[]api.Span{{Lo: 0x61, Hi: 0x61}, {Lo: 2, Hi: 1}, {Lo: -1, Hi: -1}}, api.ErrArg, 1}, // the first in the list, not in any order
		{[]api.Span{{Lo: 0x61, Hi: 0x61}, {Lo: -1, Hi: -1}, {Lo: 2, Hi: 1}}, api.ErrPoint, 1},
		{[]api.Span{{Lo: 0x70, Hi: 0x71}, {Lo: 0x60, Hi: 0x61}, {Lo: 0x50, Hi: 0x51}, {Lo: 0xd7ff, Hi: 0xdfff}}, api.ErrPoint, 3},
	} {
		s, e := ranges.Of(x.in)
		if wrong := refused(s, e, x.no, x.at); wrong != "" {
			t.Errorf("Of(%x): %v: %s", x.in, e, wrong)
		}
	}
}

// P3.1: every pair of edges and of numbers that are no points, alone and behind others.
func TestOfEnds(t *testing.T) {
	ends := slices.Concat(edges, beside, []rune{0x61, 0xfffd, 0x10000, 0x1100c3})
	for _, lo := range ends {
		for _, hi := range ends {
			for n := range 3 {
				l := append(make([]api.Span, n), api.Span{Lo: lo, Hi: hi})
				s, e := ranges.Of(l)
				no := api.OK
				if !isPoint(lo) || !isPoint(hi) {
					no = api.ErrPoint
				} else if hi < lo {
					no = api.ErrArg
				}
				if no == api.OK {
					if e != nil || !s.Has(lo) || !s.Has(hi) || s.Has(0) != (n > 0 || lo == 0) {
						t.Fatalf("Of(%x): %v", l, e)
					}
				} else if wrong := refused(s, e, no, n); wrong != "" {
					t.Fatalf("Of(%x): %v: %s", l, e, wrong)
				}
			}
		}
	}
}

// P3.2: the chapter's examples of the whole.
func TestWhole(t *testing.T) {
	whole := set(t).Not()
	if !slices.Equal(whole.Spans(), []api.Span{{Lo: 0, Hi: 0x1100ff}}) || whole.Count() != total || ranges.Print(whole) != `[\u{0}-\xff]` {
		t.Errorf("all points: %x, %d, %s", whole.Spans(), whole.Count(), ranges.Print(whole))
	}
	for _, s := range []*ranges.Set{whole, set(t, api.Span{Lo: 0, Hi: 0x1100ff})} {
		if s.Has(0xd800) || s.Has(0x110000) || s.Has(-1) || !s.Has(0x1100ff) || !s.Has(0) {
			t.Errorf("it has what is no point, or has not what is one")
		}
		if none := s.Not(); len(none.Spans()) != 0 || none.Count() != 0 || ranges.Print(none) != "[]" || none.Has(0) {
			t.Errorf("what is not in the whole: %x", none.Spans())
		}
	}
	for _, r := range []rune{math.MinInt32, math.MaxInt32, 0, 0x1100ff} {
		if set(t).Has(r) {
			t.Errorf("the empty set has %x", r)
		}
	}
}

// small are the sets of all choices among some points that touch one another here and there, each with its points.
func small(t *testing.T) (sets []*ranges.Set, lists [][]rune) {
	points := []rune{0, 1, 0xd7ff, 0xe000, 0x10ffff, 0x110080, 0x110081, 0x1100ff}
	for mask := range 1 << len(points) {
		var list []rune
		var spans []api.Span
		for i, r := range points {
			if mask>>i&1 == 1 {
				list = append(list, r)
				spans = append(spans, api.Span{Lo: r, Hi: r})
			}
		}
		sets, lists = append(sets, set(t, reversed(spans)...)), append(lists, list)
	}
	return sets, lists
}

// P3.2, P3.3: each small set with each, and with what is not in it.
func TestMadeOfSmall(t *testing.T) {
	sets, lists := small(t)
	for i, a := range sets {
		for j, b := range sets {
			var join, both, less []rune
			for _, r := range lists[len(lists)-1] {
				inA, inB := slices.Contains(lists[i], r), slices.Contains(lists[j], r)
				if inA || inB {
					join = append(join, r)
				}
				if inA && inB {
					both = append(both, r)
				}
				if inA && !inB {
					less = append(less, r)
				}
			}
			for _, x := range []struct {
				name string
				got  *ranges.Set
				want []rune
			}{{"Join", a.Join(b), join}, {"Both", a.Both(b), both}, {"Less", a.Less(b), less}} {
				if !slices.Equal(x.got.Spans(), spansOf(x.want)) || x.got.Count() != len(x.want) {
					t.Fatalf("%x %s %x: %x; want %x", lists[i], x.name, lists[j], x.got.Spans(), x.want)
				}
			}
			if without := total - len(join) + len(lists[i]); a.Join(b.Not()).Count() != total-len(lists[j])+len(both) || b.Not().Both(a).Count() != len(less) || a.Join(b).Not().Join(a).Count() != without {
				t.Fatalf("%x, %x: with what is not in the second", lists[i], lists[j])
			}
		}
	}
}

// P3.2: sets of all kinds with one another, held against the marks of all numbers.
func TestMade(t *testing.T) {
	c := chance(7)
	for n := range 12 {
		k, l := c.spans(3*n), c.spans(40-3*n)
		a, b := set(t, k...), set(t, l...)
		m, o := marksOf(k), marksOf(l)
		for _, x := range []struct {
			name string
			got  *ranges.Set
			want marks
		}{
			{"Join", a.Join(b), made(m, o, func(a, b bool) bool { return a || b })},
			{"Both", a.Both(b), made(m, o, func(a, b bool) bool { return a && b })},
			{"Less", a.Less(b), made(m, o, func(a, b bool) bool { return a && !b })},
			{"Less", b.Less(a), made(m, o, func(a, b bool) bool { return b && !a })},
			{"Not", a.Not(), made(m, o, func(a, _ bool) bool { return !a })},
		} {
			if wrong := wrongIn(x.got, x.want); wrong != "" {
				t.Fatalf("%s of %x and %x: %s", x.name, k, l, wrong)
			}
		}
		if wrongIn(a, m) != "" || wrongIn(b, o) != "" {
			t.Fatalf("%x, %x: a set is changed by what is made of it", k, l)
		}
	}
}

// P3.2: what is made of a set and itself.
func TestMadeOfItself(t *testing.T) {
	for _, l := range some() {
		s := set(t, l...)
		if !same(s.Join(s), s) || !same(s.Both(s), s) || s.Less(s).Count() != 0 || s.Both(s.Not()).Count() != 0 || s.Join(s.Not()).Count() != total {
			t.Errorf("Of(%x), with itself", l)
		}
	}
}

// same tells whether two sets have the same points, by P3.3.
func same(a, b *ranges.Set) bool { return slices.Equal(a.Spans(), b.Spans()) }

// P3.3: sets have the same Spans just if they have the same points, however they came to be.
func TestSpansAreOneForm(t *testing.T) {
	sets, lists := small(t)
	for i, a := range sets {
		for j, b := range sets {
			if same(a, b) != slices.Equal(lists[i], lists[j]) {
				t.Fatalf("%x and %x: %x, %x", lists[i], lists[j], a.Spans(), b.Spans())
			}
		}
	}
	c := chance(11)
	for range 200 {
		l := c.spans(20)
		s := set(t, l...)
		one := set(t)
		for _, x := range l {
			one = one.Join(set(t, x))
		}
		for _, o := range []*ranges.Set{one, set(t, reversed(l)...), set(t, append(reversed(l), l...)...), set(t, s.Spans()...), s.Join(one)} {
			if !same(o, s) || ranges.Print(o) != ranges.Print(s) || o.Count() != s.Count() {
				t.Fatalf("%x: %x, and %x", l, s.Spans(), o.Spans())
			}
		}
		spans := s.Spans()
		for i, x := range spans {
			if !isPoint(x.Lo) || !isPoint(x.Hi) || x.Hi < x.Lo || i > 0 && x.Lo <= behind(spans[i-1].Hi) {
				t.Fatalf("%x: %x", l, spans)
			}
		}
	}
}

// P3.6: what follows of Not, Less and Count.
func TestNot(t *testing.T) {
	lists := some()
	for i, l := range lists {
		a, b := set(t, l...), set(t, lists[(i*7+3)%len(lists)]...)
		switch {
		case !same(a.Not().Not(), a):
			t.Errorf("Not of Not of %x: %x", l, a.Not().Not().Spans())
		case !same(a.Join(b).Not(), a.Not().Both(b.Not())):
			t.Errorf("Not of Join of %x and %x: %x", l, b.Spans(), a.Join(b).Not().Spans())
		case !same(a.Both(b).Not(), a.Not().Join(b.Not())):
			t.Errorf("Not of Both of %x and %x: %x", l, b.Spans(), a.Both(b).Not().Spans())
		case !same(a.Less(b), a.Both(b.Not())):
			t.Errorf("%x Less %x: %x", l, b.Spans(), a.Less(b).Spans())
		case a.Count()+a.Not().Count() != total:
			t.Errorf("Counts of %x and its Not: %d, %d", l, a.Count(), a.Not().Count())
		}
	}
}

// left goes over points from the first one on, and leaves them behind n.
func left(l iter.Seq[rune], n int) []rune {
	var got []rune
	for r := range l {
		if len(got) == n {
			break
		}
		got = append(got, r)
	}
	return got
}

// P3.2, R5: points are handed out rising; they may be left, gone over again, and gone over within themselves.
func TestAll(t *testing.T) {
	for _, x := range []struct {
		spans []api.Span
		want  []rune
	}{
		{[]api.Span{{Lo: 0xd7fe, Hi: 0xe001}}, []rune{0xd7fe, 0xd7ff, 0xe000, 0xe001}},
		{[]api.Span{{Lo: 0x10fffe, Hi: 0x110081}}, []rune{0x10fffe, 0x10ffff, 0x110080, 0x110081}},
		{[]api.Span{{Lo: 0x63, Hi: 0x64}, {Lo: 0x1100ff, Hi: 0x1100ff}, {}, {Lo: 0x61, Hi: 0x61}}, []rune{0, 0x61, 0x63, 0x64, 0x1100ff}},
		{nil, nil},
	} {
		s := set(t, x.spans...)
		all := s.All()
		for n := range len(x.want) + 2 {
			if got := left(all, n); !slices.Equal(got, x.want[:min(n, len(x.want))]) {
				t.Errorf("%x, left behind %d: %x", x.spans, n, got)
			}
		}
		var outer []rune
		for r := range all {
			outer = append(outer, r)
			if inner := left(all, len(outer)); !slices.Equal(inner, outer) || !slices.Equal(left(all, 9), x.want) {
				t.Errorf("%x, within itself: %x", x.spans, inner)
			}
			s.Not().Join(s)
		}
		if !slices.Equal(outer, x.want) {
			t.Errorf("%x: %x", x.spans, outer)
		}
	}
}

// R4: no call changes or keeps what it is given, and no answers share memory, their spare room included.
func TestMemory(t *testing.T) {
	room := []api.Span{{Lo: 0x70, Hi: 0x7a}, {Lo: 0x61, Hi: 0x63}, {Lo: 0x62, Hi: 0x66}, {Lo: 1, Hi: 2}, {Lo: 0x64, Hi: 3}}
	before := slices.Clone(room)
	l := room[:3]
	s := set(t, l...)
	o := set(t, api.Span{Lo: 0x66, Hi: 0x70})
	if !slices.Equal(room, before) {
		t.Errorf("Of has changed its list: %x", room)
	}
	clear(room)
	want := []api.Span{{Lo: 0x61, Hi: 0x66}, {Lo: 0x70, Hi: 0x7a}}
	for range 2 {
		for _, made := range []*ranges.Set{s, s.Join(s), s.Both(s), s.Less(set(t)), s.Not().Not(), s.Join(set(t))} {
			got := made.Spans()
			if !slices.Equal(got, want) {
				t.Errorf("a set has changed: %x", got)
			}
			got = got[:cap(got)]
			for i := range got {
				got[i] = api.Span{Lo: 7, Hi: 7}
			}
		}
		s.Join(o)
		o.Join(s)
		if !slices.Equal(o.Spans(), []api.Span{{Lo: 0x66, Hi: 0x70}}) {
			t.Errorf("a set has changed: %x", o.Spans())
		}
	}
}

// R5: many may ask the same set at once.
func TestSideBySide(t *testing.T) {
	c := chance(5)
	l := c.spans(20)
	s, o := set(t, l...), set(t, c.spans(20)...)
	form, join := ranges.Print(s), ranges.Print(s.Join(o))
	var group sync.WaitGroup
	for range 4 {
		group.Go(func() {
			for range 50 {
				if ranges.Print(s) != form || ranges.Print(o.Join(s)) != join || s.Not().Count()+s.Count() != total {
					t.Error("a set tells something else")
				}
			}
		})
	}
	group.Wait()
}

// R1: sets of as many spans as there can be are made, told and read in one go.
func TestLarge(t *testing.T) {
	var even, odd []api.Span
	n := 0
	for r := rune(0); r <= 0x1100ff; r = behind(r) {
		if n%2 == 0 {
			even = append(even, api.Span{Lo: r, Hi: r})
		} else {
			odd = append(odd, api.Span{Lo: r, Hi: r})
		}
		n++
	}
	a, b := set(t, reversed(even)...), set(t, append(odd, odd...)...)
	if n != total || a.Count() != total/2 || b.Count() != total/2 || !slices.Equal(a.Spans(), even) || !same(a.Not(), b) || !same(b.Not(), a) {
		t.Errorf("every second point: %d, %d of %d", a.Count(), b.Count(), n)
	}
	if a.Both(b).Count() != 0 || !same(a.Less(b), a) || len(a.Join(b).Spans()) != 1 || a.Join(b).Count() != total {
		t.Errorf("every second point, with the others")
	}
	back, e := ranges.Parse(ranges.Print(a))
	if e != nil || !same(back, a) {
		t.Errorf("every second point doesn't come back: %v", e)
	}
	for _, x := range even {
		if !a.Has(x.Lo) || b.Has(x.Lo) {
			t.Fatalf("Has(%x): %v, %v", x.Lo, a.Has(x.Lo), b.Has(x.Lo))
		}
	}
}
