package normal_test

import (
	"slices"
	"testing"

	"glossary/normal"
	"glossary/props"
)

// says holds what a stream answers against this.
func says(t *testing.T, call string, got []rune, want ...rune) {
	t.Helper()
	if !slices.Equal(got, want) {
		t.Errorf("%s: %x, want %x", call, got, want)
	}
}

// P7.4: the chapter's example; a stream that ends with nothing is as New made it.
func TestStream(t *testing.T) {
	s := normal.New(parsed(t, file))
	says(t, "Write(41 301)", s.Write([]rune{0x41, 0x301}), 0x41)
	says(t, "Write(327)", s.Write([]rune{0x327}))
	says(t, "Write(42 300)", s.Write([]rune{0x42, 0x300}), 0x327, 0x301, 0x42)
	says(t, "End", s.End(), 0x300)
	says(t, "End", s.End())
	says(t, "End", s.End())
	says(t, "Write(nothing)", s.Write(nil))
	says(t, "Write(300)", s.Write([]rune{0x300}))
	says(t, "Write(327)", s.Write([]rune{0x327}))
	says(t, "Write(nothing)", s.Write([]rune{}))
	says(t, "End", s.End(), 0x327, 0x300)
	says(t, "Write(327)", s.Write([]rune{0x327}))
	says(t, "End", s.End(), 0x327)
	says(t, "Write(AC01)", s.Write([]rune{0xac01}), 0x1100, 0x1161, 0x11a8)
	says(t, "Write(302 C0)", s.Write([]rune{0x302, 0xc0}), 0x302, 0x41)
	says(t, "Write(1100FF)", s.Write([]rune{0x1100ff}), 0x300, 0x1100ff)
	says(t, "End", s.End())
	says(t, "End of a new one", normal.New(parsed(t, file)).End())
}

// P7.4: points whose decompositions begin and end with marks, or are marks alone.
func TestStreamOdd(t *testing.T) {
	s := normal.New(parsed(t, odd))
	says(t, "Write(54)", s.Write([]rune{0x54}))
	says(t, "Write(61)", s.Write([]rune{0x61}))
	says(t, "Write(62)", s.Write([]rune{0x62}), 0x50, 0x51, 0x53, 0x54, 0x42)
	says(t, "Write(60)", s.Write([]rune{0x60}), 0x50, 0x41)
	says(t, "Write(65)", s.Write([]rune{0x65}))
	says(t, "Write(64)", s.Write([]rune{0x64}), 0x50, 0x53, 0x54, 0x42)
	says(t, "Write(53 -1 53)", s.Write([]rune{0x53, -1, 0x53}), 0x50, 0x50, 0x51, 0x53, -1)
	says(t, "End", s.End(), 0x53)
}

// goes holds a stream against the second way, piece by piece.
func goes(t *testing.T, p *props.Props, s *normal.Stream, pieces [][]rune) {
	t.Helper()
	plain := &plainStream{p: p}
	var l, answered []rune
	for i, piece := range pieces {
		got := s.Write(piece)
		if want := plain.write(piece); !slices.Equal(got, want) {
			t.Fatalf("Write number %d of %x: %x, want %x", i, pieces, got, want)
		}
		l, answered = append(l, piece...), append(answered, got...)
	}
	got := s.End()
	if want := plain.end(); !slices.Equal(got, want) {
		t.Fatalf("End of %x: %x, want %x", pieces, got, want)
	}
	if answered = append(answered, got...); !slices.Equal(answered, normal.Decompose(p, l)) {
		t.Fatalf("%x: %x in all", pieces, answered)
	}
}

// P7.4, P7.7: short rows, cut into pieces in every way; one stream for all.
func TestEveryCut(t *testing.T) {
	for s, letters := range map[string][]rune{
		file: {0x41, 0xc0, 0x300, 0x301, 0x327, 0xac01, 0x1100ff},
		odd:  {0x41, 0x50, 0x53, 0x60, 0x61, 0x62, 0x64, -1},
	} {
		p := parsed(t, s)
		stream := normal.New(p)
		rows(letters, 4, func(l []rune) {
			for cuts := range 1 << max(0, len(l)-1) {
				pieces := [][]rune{nil}
				for i, r := range l {
					if i > 0 && cuts>>(i-1)&1 == 1 {
						pieces = append(pieces, nil)
					}
					last := len(pieces) - 1
					pieces[last] = append(pieces[last], r)
				}
				goes(t, p, stream, pieces)
			}
		})
	}
}

// P7.4, P7.7: rows by chance, in pieces by chance, empty ones among them, and in pieces of each length.
func TestPieces(t *testing.T) {
	p := parsed(t, odd)
	stream := normal.New(p)
	c := chance(7)
	for range 1500 {
		var pieces [][]rune
		for range c.below(12) {
			pieces = append(pieces, c.row(oddPoints, c.below(5)))
		}
		goes(t, p, stream, pieces)
	}
	for range 20 {
		l := c.row(oddPoints, 30)
		for n := 1; n <= len(l); n++ {
			goes(t, p, stream, slices.Collect(slices.Chunk(l, n)))
		}
	}
}

// P7.4: two streams over the same properties have nothing to do with one another.
func TestTwoStreams(t *testing.T) {
	p := parsed(t, file)
	a, b := normal.New(p), normal.New(p)
	says(t, "Write(301) of a", a.Write([]rune{0x301}))
	says(t, "Write(42 300) of b", b.Write([]rune{0x42, 0x300}), 0x42)
	says(t, "Write(327) of a", a.Write([]rune{0x327}))
	says(t, "End of b", b.End(), 0x300)
	says(t, "End of a", a.End(), 0x327, 0x301)
}

// R4: what is handed to a stream is kept as a copy, and what it answers is the caller's.
func TestStreamMemory(t *testing.T) {
	p := parsed(t, odd)
	c := chance(9)
	for range 300 {
		stream, plain := normal.New(p), &plainStream{p: p}
		var answers, wants [][]rune
		for range 8 {
			piece := withRoom(c.row(oddPoints, c.below(6)))
			want := plain.write(piece)
			before := slices.Clone(whole(piece))
			got := stream.Write(piece)
			if !slices.Equal(whole(piece), before) {
				t.Fatalf("Write changed %x to %x", before, whole(piece))
			}
			if !slices.Equal(got, want) {
				t.Fatalf("Write(%x): %x, want %x", piece, got, want)
			}
			answers, wants = append(answers, got), append(wants, slices.Clone(want))
			spoil(piece)
			for i, answer := range answers {
				if !slices.Equal(answer, wants[i]) {
					t.Fatalf("an answer was changed behind its back: %x, want %x", answer, wants[i])
				}
			}
			if c.below(2) == 0 {
				spoil(got)
				answers, wants = answers[:len(answers)-1], wants[:len(wants)-1]
			}
		}
		left, want := stream.End(), plain.end()
		if !slices.Equal(left, want) {
			t.Fatalf("End: %x, want %x", left, want)
		}
		spoil(left)
		says(t, "End", stream.End())
		says(t, "Write(50)", stream.Write([]rune{0x50}))
		says(t, "End", stream.End(), 0x50)
	}
}

// R1: very many marks, one by one, and very many short pieces.
func TestLongStream(t *testing.T) {
	p := parsed(t, odd)
	s := normal.New(p)
	const n = 200000
	for i := range n {
		if got := s.Write([]rune{0x54 - rune(i*5/n)}); len(got) > 0 {
			t.Fatalf("a mark settled %x", got)
		}
		s.Write(nil)
	}
	got := s.Write([]rune{0x41})
	want := slices.Concat(slices.Repeat([]rune{0x50}, n/5), slices.Repeat([]rune{0x52}, n/5), slices.Repeat([]rune{0x51}, n/5), slices.Repeat([]rune{0x53}, n/5), slices.Repeat([]rune{0x54}, n/5), []rune{0x41})
	if !slices.Equal(got, want) {
		t.Errorf("%d marks are answered as %d points", n, len(got))
	}
	for i := range n {
		if got := s.Write([]rune{0x53, 0x61}); len(got) > 0 {
			t.Fatalf("a mark settled %x", got)
		}
		if got := s.Write([]rune{0x42}); !slices.Equal(got, []rune{0x50, 0x51, 0x53, 0x42}) {
			t.Fatalf("Write(42) number %d: %x", i, got)
		}
	}
}
