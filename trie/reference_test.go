package trie_test

import (
	"fmt"
	"iter"
	"slices"

	"glossary/trie"
)

// A second way to the same things, from the document's words alone: things stand in one list, in no order, and all is told by going through it from end to end. The tests hold the package against it.

// held is a thing under a row.
type held struct {
	row   []rune
	thing int
}

// heap is all that there is.
type heap []held

// same tells whether two rows are the same.
func same(a, b []rune) bool { return len(a) == len(b) && begins(a, b) }

// begins tells whether a row begins with another one.
func begins(a, b []rune) bool {
	for i, r := range b {
		if i >= len(a) || a[i] != r {
			return false
		}
	}
	return true
}

// order tells how two rows stand: the first place at which they are unlike decides; then the one with which the other begins stands ahead.
func order(a, b []rune) int {
	for i := 0; i < len(a) && i < len(b); i++ {
		switch {
		case a[i] < b[i]:
			return -1
		case a[i] > b[i]:
			return 1
		}
	}
	return len(a) - len(b)
}

func (h heap) at(row []rune) int {
	return slices.IndexFunc(h, func(x held) bool { return same(x.row, row) })
}

func (h *heap) put(row []rune, thing int) bool {
	i := h.at(row)
	if i < 0 {
		*h = append(*h, held{slices.Clone(row), thing})
		return false
	}
	(*h)[i].thing = thing
	return true
}

func (h *heap) take(row []rune) bool {
	i := h.at(row)
	if i < 0 {
		return false
	}
	*h = slices.Delete(*h, i, i+1)
	return true
}

func (h heap) get(row []rune) (int, bool) {
	if i := h.at(row); i >= 0 {
		return h[i].thing, true
	}
	return 0, false
}

func (h heap) longest(l []rune) (int, int, bool) {
	for n := len(l); n >= 0; n-- {
		if thing, ok := h.get(l[:n]); ok {
			return thing, n, true
		}
	}
	return 0, 0, false
}

func (h heap) below(row []rune) []held {
	l := slices.DeleteFunc(slices.Clone(h), func(x held) bool { return !begins(x.row, row) })
	slices.SortFunc(l, func(a, b held) int { return order(a.row, b.row) })
	return l
}

// told is all that an iterator hands out, each row copied.
func told(l iter.Seq2[[]rune, int]) []held {
	var got []held
	for row, thing := range l {
		got = append(got, held{slices.Clone(row), thing})
	}
	return got
}

// alike tells whether two lists are the same.
func alike(a, b []held) bool {
	return slices.EqualFunc(a, b, func(x, y held) bool { return same(x.row, y.row) && x.thing == y.thing })
}

// wrongIn tells the first thing that is wrong with a trie that should have just these, when it is asked for all of these rows.
func wrongIn(t *trie.Trie[int], h heap, asked [][]rune) string {
	if t.Len() != len(h) {
		return fmt.Sprintf("Len() = %d; want %d", t.Len(), len(h))
	}
	if got, want := told(t.All()), h.below(nil); !alike(got, want) {
		return fmt.Sprintf("All: %x; want %x", got, want)
	}
	for _, row := range asked {
		thing, ok := t.Get(row)
		if want, there := h.get(row); thing != want || ok != there {
			return fmt.Sprintf("Get(%x) = %d, %v; want %d, %v", row, thing, ok, want, there)
		}
		thing, n, ok := t.Longest(row)
		if want, long, there := h.longest(row); thing != want || n != long || ok != there {
			return fmt.Sprintf("Longest(%x) = %d, %d, %v; want %d, %d, %v", row, thing, n, ok, want, long, there)
		}
		if got, want := told(t.Below(row)), h.below(row); !alike(got, want) {
			return fmt.Sprintf("Below(%x): %x; want %x", row, got, want)
		}
	}
	return ""
}

// rowsOf are all rows of up to n numbers, each one of letters; that of none is the first.
func rowsOf(n int, letters ...rune) [][]rune {
	rows := [][]rune{nil}
	for from := 0; n > 0; n-- {
		to := len(rows)
		for _, row := range rows[from:to] {
			for _, r := range letters {
				rows = append(rows, slices.Concat(row, []rune{r}))
			}
		}
		from = to
	}
	return rows
}

// ends are numbers at both ends, those at which points begin and end, and such as are no points.
var ends = []rune{-1 << 31, -1<<31 + 1, -0x110080, -2, -1, 0, 1, 0x61, 0xd7ff, 0xd800, 0xdfff, 0xe000, 0x10ffff, 0x110000, 0x110080, 0x1100ff, 0x110100, 1<<31 - 2, 1<<31 - 1}

// chance makes numbers, the same ones each time.
type chance uint64

// below is a number from 0 on, and less than n.
func (c *chance) below(n int) int {
	*c = *c*6364136223846793005 + 1442695040888963407
	return int(*c>>33) % n
}

// row is one of fewer than n numbers, each one of letters.
func (c *chance) row(n int, letters []rune) []rune {
	row := make([]rune, c.below(n))
	for i := range row {
		row[i] = letters[c.below(len(letters))]
	}
	return row
}
