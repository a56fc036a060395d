package cells_test

import (
	"slices"
	"strings"
	"sync"
	"testing"

	"glossary/api"
	"glossary/cells"
)

// R5: what is told of a text hangs on nothing that was asked ahead, and goroutines that ask side by side are told the same.
func TestSideBySide(t *testing.T) {
	for _, x := range samples() {
		p := parsed(t, x.file)
		shared := strings.Join(x.pieces, "")
		all, back, want := cells.All(p, shared), cells.Back(p, shared), plainCells(p, shared)
		var group sync.WaitGroup
		for worker := range 4 {
			group.Go(func() {
				c := chance(worker)
				for n := range 100 {
					s := c.text(x.pieces, n%9)
					if !slices.Equal(listed(cells.All(p, s)), plainCells(p, s)) || !slices.Equal(listed(cells.Back(p, s)), reversed(plainCells(p, s))) {
						t.Errorf("side by side: of %+q", s)
						return
					}
					if !slices.Equal(listed(all), want) || !slices.Equal(listed(back), reversed(want)) {
						t.Errorf("side by side: an iterator over %+q", shared)
						return
					}
				}
			})
		}
		group.Wait()
	}
}

// R5: an iterator goes over what there was when it was got, however much is asked in between.
func TestKept(t *testing.T) {
	p, q := parsed(t, file), parsed(t, odd)
	s := "a\u0300b\r\n\uac00\u11a8\xff"
	all, back := cells.All(p, s), cells.Back(p, s)
	want := plainCells(p, s)
	check(t, q, s)
	check(t, q, "fg\u0300")
	for range 3 {
		if !slices.Equal(listed(all), want) || !slices.Equal(listed(back), reversed(want)) {
			t.Errorf("of %+q %v, then %v", s, want, listed(all))
		}
	}
}

// R1: long texts of one kind, as one cell and as many, asked at each byte.
func TestLong(t *testing.T) {
	p := parsed(t, file)
	for _, x := range []struct {
		s   string
		one bool // cell, in all
	}{
		{"a", false}, {"\r\n", false}, {"\xff", false}, {"\xf0\x9f\x98", false}, {"\x01", false}, {"a\u0300\u0327", false}, {"\uac00\u11a8", false}, {"\U0001f600", false},
		{"\u0300", true}, {"\u200d", true}, {"\U0001f468\u200d", true}, {"\u1100", true}, {"\u1161", true}, {"\u11a8", true}, {"\u0327", true},
	} {
		n := 1 << 18 / len(x.s)
		s := strings.Repeat(x.s, n)
		want := []api.Range{{From: 0, To: len(s)}}
		if !x.one {
			want = nil
			for i := range n {
				for _, cell := range plainCells(p, x.s) {
					want = append(want, api.Range{From: i*len(x.s) + cell.From, To: i*len(x.s) + cell.To})
				}
			}
		}
		if !slices.Equal(listed(cells.All(p, s)), want) || !slices.Equal(listed(cells.Back(p, s)), reversed(want)) || cells.Count(p, s) != len(want) {
			t.Errorf("%+q, %d times: %d cells, want %d", x.s, n, cells.Count(p, s), len(want))
		}
		edges, next := 0, 0
		for at := range len(s) + 1 {
			if !cells.Edge(p, s, at) {
				continue
			}
			edges++
			if next < len(want) && at != want[next].From {
				t.Fatalf("%+q, %d times: an edge at %d", x.s, n, at)
			}
			next++
		}
		if edges != len(want)+1 {
			t.Errorf("%+q, %d times: %d edges", x.s, n, edges)
		}
	}
}
