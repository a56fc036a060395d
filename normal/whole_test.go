package normal_test

import (
	"slices"
	"strconv"
	"strings"
	"sync"
	"testing"

	"glossary/normal"
	"glossary/props"
)

// withRoom is a row with room behind it, in which something stands.
func withRoom(l []rune) []rune {
	wide := append(slices.Clone(l), 0x300, 0x53, 0x61, -7)
	return wide[:len(l)]
}

// whole is a row with the room behind it.
func whole(l []rune) []rune { return l[:cap(l)] }

// spoil overwrites a row and the room behind it.
func spoil(l []rune) {
	for i := range whole(l) {
		whole(l)[i] = -7
	}
}

// R4: rows that are handed in stay as they are; answers share nothing with them, nor with one another.
func TestMemory(t *testing.T) {
	p := parsed(t, odd)
	c := chance(11)
	for n := range 600 {
		l := withRoom(c.row(oddPoints, n%9))
		before := slices.Clone(whole(l))
		for _, call := range []func(*props.Props, []rune) []rune{normal.Decompose, normal.Compose} {
			first, second := call(p, l), call(p, l)
			want := slices.Clone(first)
			spoil(first)
			if !slices.Equal(second, want) || !slices.Equal(call(p, l), want) {
				t.Fatalf("of %x: %x, and then %x", l, want, second)
			}
			spoil(second)
		}
		normal.Cut(p, l, n%9)
		if !slices.Equal(whole(l), before) {
			t.Fatalf("%x became %x", before, whole(l))
		}
	}
	check(t, p, oddPoints)
}

// R5: goroutines that ask side by side are told the same.
func TestSideBySide(t *testing.T) {
	p := parsed(t, odd)
	var group sync.WaitGroup
	for worker := range 4 {
		group.Go(func() {
			c := chance(worker)
			stream, plain := normal.New(p), &plainStream{p: p}
			for n := range 300 {
				l := c.row(oddPoints, n%12)
				at := c.below(len(l) + 1)
				switch {
				case !slices.Equal(normal.Decompose(p, l), plainDecompose(p, l)), !slices.Equal(normal.Compose(p, l), plainCompose(p, l)), normal.Cut(p, l, at) != plainCut(p, l, at):
					t.Errorf("side by side: something else is told of %x", l)
					return
				case !slices.Equal(stream.Write(l), plain.write(l)), n%10 == 0 && !slices.Equal(stream.End(), plain.end()):
					t.Errorf("side by side: a stream answers something else at %x", l)
					return
				case normal.Text(p, "B\xffSR", true) != "B\xffRS", normal.Is(p, "B\xffSR", false), !normal.Is(p, "B\xffRS", true):
					t.Error("side by side: something else is told of a text")
					return
				}
			}
		})
	}
	group.Wait()
}

// R1, P7.1: very long runs of marks, in each order; they are put in order as a stable sort puts them.
func TestLongRuns(t *testing.T) {
	var b strings.Builder
	for i := range 254 {
		b.WriteString("class " + hex(rune(0xe000+i)) + " " + strconv.Itoa(1+i*7%254) + "\n")
		b.WriteString("class " + hex(rune(0xe100+i)) + " " + strconv.Itoa(254-i) + "\n")
	}
	p := parsed(t, b.String())
	const n = 300000
	c := chance(13)
	byChance, falling, inTurn := make([]rune, n), make([]rune, n), make([]rune, n)
	for i := range n {
		byChance[i] = rune(0xe000 + 0x100*c.below(2) + c.below(254))
		falling[i] = rune(0xe100 + i*254/n)
		inTurn[i] = rune(0xe000 + i%254)
	}
	for _, l := range [][]rune{byChance, falling, inTurn} {
		want := slices.Clone(l)
		slices.SortStableFunc(want, func(a, b rune) int { return p.Class(a) - p.Class(b) })
		if got := normal.Decompose(p, l); !slices.Equal(got, want) {
			t.Error("marks are not in the order of their classes, as they stood")
		}
		if got := normal.Compose(p, l); !slices.Equal(got, want) {
			t.Error("marks alone are not composed to themselves")
		}
	}
}

// R1, P7.1, P7.3: decompositions that lead from one to the next for as long as a file allows, of all their points.
func TestLongWays(t *testing.T) {
	const n = 50000
	var b strings.Builder
	b.WriteString("class 0300 5\n")
	for i := range rune(n - 1) {
		b.WriteString("decomp " + hex(0x20000+i) + " " + hex(0x20001+i) + "\n")
	}
	for tail, want := range map[string][]rune{
		" 0041 0300":                          {0x41, 0x300},
		" 0300 0041":                          {0x300, 0x41},
		" 0041 0042 0043 0044 AC01 0046":      {0x41, 0x42, 0x43, 0x44, 0x1100, 0x1161, 0x11a8, 0x46},
		" 0300 0300 0300 0300 0300 0300 0300": slices.Repeat([]rune{0x300}, 7),
	} {
		p := parsed(t, b.String()+"decomp "+hex(0x20000+n-1)+tail)
		l := make([]rune, 4*n)
		for i := range l {
			l[i] = 0x20000 + rune(i%n)
		}
		if got := normal.Decompose(p, l); !slices.Equal(got, slices.Repeat(want, 4*n)) {
			t.Errorf("behind a long way to%s: %d points", tail, len(got))
		}
		if got := normal.Cut(p, l, n); got != (want[0] != 0x300) {
			t.Errorf("Cut ahead of a long way to%s: %v", tail, got)
		}
	}
}

// R1, P7.2: long texts, and starters that are composed again and again.
func TestLongTexts(t *testing.T) {
	const n = 1 << 20
	p := parsed(t, "class 0300 5\ndecomp 0041 0042 0300\nclass 0327 4\ndecomp 0042 0043 0327\n")
	for s, want := range map[string]string{
		"a":             "a",
		"\xff":          "\xff",
		"C\u0300":       "C\u0300",
		"C\u0300\u0327": "A",
	} {
		if got := normal.Text(p, strings.Repeat(s, n/8), true); got != strings.Repeat(want, n/8) {
			t.Errorf("a long text of %q, composed: %d bytes", s, len(got))
		}
		if got := normal.Text(p, strings.Repeat(want, n/8), false); normal.Text(p, got, true) != strings.Repeat(want, n/8) || normal.Is(p, strings.Repeat(s, n/8), true) != (s == want) {
			t.Errorf("a long text of %q, decomposed: %d bytes", want, len(got))
		}
	}
}

func hex(r rune) string {
	digits := strconv.FormatInt(int64(r), 16)
	return strings.Repeat("0", max(0, 4-len(digits))) + digits
}
