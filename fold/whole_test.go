package fold_test

import (
	"slices"
	"strconv"
	"strings"
	"sync"
	"testing"

	"glossary/api"
	"glossary/fold"
	"glossary/props"
)

// spoil overwrites spots and the room behind them.
func spoil(l []api.Spot) {
	l = l[:cap(l)]
	for i := range l {
		l[i] = api.Spot{At: -7, From: -7, To: -7}
	}
}

// R4: spots are the caller's: what becomes of them changes neither other ones nor what is told afterwards.
func TestMemory(t *testing.T) {
	for _, x := range samples {
		p := parsed(t, x.file)
		c := chance(11)
		for n := range 300 {
			s := c.text(x.pieces, n%12)
			wantText, want := plainFold(p, s)
			_, first := fold.Fold(p, s)
			_, second := fold.Fold(p, s)
			spoil(first)
			if !slices.Equal(second, want) {
				t.Fatalf("of %q %s was told, and became %s", s, told(want), told(second))
			}
			_ = append(second, first...)
			spoil(second)
			if text, third := fold.Fold(p, s); text != wantText || !slices.Equal(third, want) {
				t.Fatalf("of %q first %s, and then %q %s", s, told(want), text, told(third))
			}
			check(t, p, s)
		}
	}
}

// R5: what is told of a text hangs on nothing that was asked ahead, and goroutines that ask side by side are told the same.
func TestSideBySide(t *testing.T) {
	for _, x := range samples {
		p := parsed(t, x.file)
		var group sync.WaitGroup
		for worker := range 4 {
			group.Go(func() {
				c := chance(worker)
				for n := range 200 {
					a, b := c.text(x.pieces, n%9), c.text(x.pieces, n%5)
					text, spots := fold.Fold(p, a)
					wantText, want := plainFold(p, a)
					other, _ := plainFold(p, b)
					if text != wantText || !slices.Equal(spots, want) || fold.Same(p, a, b) != (wantText == other) {
						t.Errorf("side by side: of %q %q %s", a, text, told(spots))
						return
					}
				}
			})
		}
		group.Wait()
	}
}

// hex is a point as a file has it.
func hex(r rune) string {
	digits := strconv.FormatInt(int64(r), 16)
	return strings.Repeat("0", max(0, 4-len(digits))) + digits
}

// stably are points put in order by their classes, as a stable sort puts them.
func stably(p *props.Props, row []plain) {
	slices.SortStableFunc(row, func(a, b plain) int { return p.Class(a.point) - p.Class(b.point) })
}

// R1, P8.1: very long runs of marks, with folds to marks of other classes.
func TestLongRuns(t *testing.T) {
	const n = 200000
	var b strings.Builder
	for i := range rune(254) {
		b.WriteString("class " + hex(0xe000+i) + " " + strconv.Itoa(1+int(i)*7%254) + "\n")
		b.WriteString("fold " + hex(0xe000+i) + " " + hex(0xe000+(i*11+3)%254) + "\n")
	}
	p := parsed(t, b.String())
	c := chance(13)
	for what, mark := range map[string]func(int) rune{
		"by chance": func(int) rune { return rune(c.below(254)) },
		"in turn":   func(i int) rune { return rune(i % 254) },
		"in blocks": func(i int) rune { return rune(i * 254 / n) },
	} {
		l := make([]rune, n)
		for i := range l {
			l[i] = 0xe000 + mark(i)
		}
		s := string(l)
		row := plainUnits(s)
		stably(p, row)
		for i, x := range row {
			row[i].point = p.Fold(x.point)[0]
		}
		stably(p, row)
		text, spots := fold.Fold(p, s)
		for i, r := range []rune(text) {
			if r != row[i].point || spots[i] != (api.Spot{At: 3 * i, From: row[i].from, To: row[i].to}) {
				t.Fatalf("marks %s: %x %v at %d, want %v", what, r, spots[i], i, row[i])
			}
		}
		if len(spots) != n || !fold.Same(p, s, s) {
			t.Errorf("marks %s: %d spots", what, len(spots))
		}
	}
}

// R1, P8.1: decompositions that lead from one to the next for as long as a file allows, of all their points, gone once ahead of the folds and once behind them.
func TestLongWays(t *testing.T) {
	const n = 50000
	var b strings.Builder
	for i := range rune(n - 1) {
		b.WriteString("decomp " + hex(0x20000+i) + " " + hex(0x20001+i) + "\n")
	}
	b.WriteString("decomp " + hex(0x20000+n-1) + " 0041 0042\nfold 0041 0042 " + hex(0x20000) + "\nfold 0042 " + hex(0x20001))
	p := parsed(t, b.String())
	l := make([]rune, 2*n)
	for i := range l {
		l[i] = 0x20000 + rune(i%n)
	}
	text, spots := fold.Fold(p, string(l))
	if text != strings.Repeat("BABAB", 2*n) { // B AB from A, AB from B
		t.Fatalf("behind a long way: %d bytes", len(text))
	}
	for i, x := range spots {
		if x != (api.Spot{At: i, From: i / 5 * 4, To: i/5*4 + 4}) {
			t.Fatalf("behind a long way: %v at %d", x, i)
		}
	}
}

// R1, P8.1: long texts.
func TestLongTexts(t *testing.T) {
	p := parsed(t, file)
	for s, want := range map[string]string{
		"B":            "B",
		"S":            "ss",
		"\xff":         "\xff",
		"\u1ea6\u0327": "a\u0327\u0300\u0301",
		"\uac01\xcc":   "\u1100\u1161\u11a8\xcc",
	} {
		const n = 1 << 17
		text, spots := fold.Fold(p, strings.Repeat(s, n))
		if text != strings.Repeat(want, n) || !fold.Same(p, strings.Repeat(s, n), strings.Repeat(s, n)) {
			t.Errorf("a long text of %q: %d bytes", s, len(text))
		}
		_, once := fold.Fold(p, s)
		for i, x := range spots {
			turn, one := i/len(once), once[i%len(once)]
			if x != (api.Spot{At: turn*len(want) + one.At, From: turn*len(s) + one.From, To: turn*len(s) + one.To}) {
				t.Fatalf("a long text of %q: %v at %d", s, x, i)
			}
		}
		if len(spots) != n*len(once) {
			t.Errorf("a long text of %q: %d spots", s, len(spots))
		}
	}
}
