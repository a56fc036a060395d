package trie

import (
	"reflect"
	"testing"
)

// laid is a trie into which these rows are put, one behind the other.
func laid(rows [][]rune) *Trie[int] {
	t := New[int]()
	for _, row := range rows {
		t.Put(row, len(row))
	}
	return t
}

// P4.5: what is kept hangs on what is there alone, not on what was there once, nor on the order in which it came.
func TestShape(t *testing.T) {
	rows := [][]rune{nil, []rune("a"), []rune("ab"), []rune("abc"), []rune("abd"), []rune("abcdef"), []rune("abcxyz"), []rune("b"), []rune("bcd"), {-1, 0}}
	for have := range 1 << len(rows) {
		var here, gone [][]rune
		for i, row := range rows {
			if have>>i&1 == 1 {
				here = append(here, row)
			} else {
				gone = append(gone, row)
			}
		}
		fresh := laid(here)
		all := laid(append(gone, here...))
		for i := range gone {
			all.Take(gone[(i*3+have)%len(gone)])
			all.Take(gone[i])
		}
		if !reflect.DeepEqual(all, fresh) {
			t.Fatalf("of %q, without %q, something is left", here, gone)
		}
		for _, row := range gone {
			all.Put(row, 7)
			all.Take(row)
			if !reflect.DeepEqual(all, fresh) {
				t.Fatalf("of %q, with %q put and taken, something is left", here, row)
			}
		}
	}
}
