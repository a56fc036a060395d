package points

import (
	"math/bits"
	"sort"

	"glossary/utf"
)

// What is counted, each at the byte with which it begins.
const (
	units = iota
	pairs // units that have two pairs of bytes
	ends  // units that end a line
	kinds
)

// span is how many bytes of the text belong to one block: as many as a mask has bits.
const span = 64

// block has the sums up to a piece of the text, and what begins in the piece, so that every count is found in one step without the text.
type block struct {
	ahead [kinds]int    // how many of each kind begin ahead of this block
	here  [kinds]uint64 // at which bytes of this block one of the kind begins
}

// Places are the places of a text.
type Places struct {
	length int
	blocks []block
}

// Measure measures a text.
func Measure(s string) *Places {
	// One block more than the text may fill, as its length is a place too.
	p := &Places{length: len(s), blocks: make([]block, len(s)/span+1)}
	for at, r := range utf.All(s) {
		p.mark(units, at)
		if r > 0xffff {
			p.mark(pairs, at)
		}
		if r == '\n' {
			p.mark(ends, at)
		}
	}
	p.sum()
	return p
}

// Units is how many there are.
func (p *Places) Units() int { return p.count(units, p.length) }

// Byte is where a unit begins.
func (p *Places) Byte(unit int) int {
	switch {
	case unit < 0:
		return 0
	case unit >= p.Units():
		return p.length
	}
	return p.nth(units, unit)
}

// Unit is the unit in which a byte lies; whether it begins there.
func (p *Places) Unit(at int) (int, bool) {
	switch {
	case at < 0:
		return 0, true
	case at >= p.length:
		return p.Units(), true
	}
	n := p.count(units, at+1) - 1
	return n, p.Byte(n) == at
}

// Wide is how many pairs of bytes of UTF-16 stand ahead of a byte.
func (p *Places) Wide(at int) int {
	n, _ := p.Unit(at)
	return n + p.count(pairs, p.Byte(n))
}

// Line is the line of a byte, and the how-manyth unit there.
func (p *Places) Line(at int) (int, int) {
	n, _ := p.Unit(at)
	ahead := p.count(ends, p.Byte(n))
	first := 0
	if ahead > 0 {
		first = p.count(units, p.nth(ends, ahead-1)+1)
	}
	return 1 + ahead, 1 + n - first
}

// mark notes that one of a kind begins at a byte.
func (p *Places) mark(kind, at int) { p.blocks[at/span].here[kind] |= 1 << (at % span) }

// sum tells each block what begins ahead of it.
func (p *Places) sum() {
	var sums [kinds]int
	for i := range p.blocks {
		b := &p.blocks[i]
		b.ahead = sums
		for kind, mask := range b.here {
			sums[kind] += bits.OnesCount64(mask)
		}
	}
}

// count is how many of a kind begin ahead of a byte of the text, or of its end.
func (p *Places) count(kind, at int) int {
	b := &p.blocks[at/span]
	return b.ahead[kind] + bits.OnesCount64(b.here[kind]&(1<<(at%span)-1))
}

// nth is the byte at which one of a kind begins, by its number from 0 on; there must be one of that number.
func (p *Places) nth(kind, n int) int {
	// The last block that has no more than n ahead of it: many may have as many, and then those ahead of the last one are empty.
	i := sort.Search(len(p.blocks), func(i int) bool { return p.blocks[i].ahead[kind] > n }) - 1
	mask := p.blocks[i].here[kind]
	for range n - p.blocks[i].ahead[kind] {
		mask &= mask - 1
	}
	return i*span + bits.TrailingZeros64(mask)
}
