package weights_test

import (
	"encoding/binary"
	"strings"

	"glossary/api"
)

// The second way: what a seat weighs is counted out of its list, from behind; a number is read by holding the text against what the bytes of each number are.

// number is the number of a list that is not the ignored one.
func number(list rune) uint64 {
	switch list {
	case api.ListFirst:
		return 2
	case api.ListLast:
		return 0x110103
	}
	return uint64(list) + 3
}

// count is how many of the seats up to that place have that level, behind the last one whose level is less.
func count(l []api.Seat, at, level int) uint32 {
	n := uint32(0)
	for ; at >= 0 && l[at].Level >= level; at-- {
		if l[at].Level == level {
			n++
		}
	}
	return n
}

// has tells whether one of the seats up to that place has one of these levels.
func has(l []api.Seat, at int, levels ...int) bool {
	for _, x := range l[:at+1] {
		for _, n := range levels {
			if x.Level == n {
				return true
			}
		}
	}
	return false
}

// weighed is what the seat at that place of its list weighs.
func weighed(list rune, l []api.Seat, at int) api.Weight {
	w := api.Weight{Second: 32 + count(l, at, 2), Third: 32 + count(l, at, 3)}
	if list != api.ListIgnored {
		w.First = number(list)*1048576 + uint64(count(l, at, 1))
		return w
	}
	if !has(l, at, 2) {
		w.Second = 0
	}
	if !has(l, at, 2, 3) {
		w.Third = 0
	}
	return w
}

// bytesOf are the bytes of a number: all eight that it has, without the noughts ahead.
func bytesOf(n uint64) string {
	s := strings.TrimLeft(string(binary.BigEndian.AppendUint64(nil, n)), "\x00")
	return string([]byte{byte(2 + len(s))}) + s
}

// readOf is the number whose bytes stand at a place, by trying how wide it is.
func readOf(s string, at int) (uint64, int, bool) {
	if at < 0 || at > len(s) {
		return 0, 0, false
	}
	s = s[at:]
	for wide := 1; wide <= 9 && wide <= len(s); wide++ {
		n := binary.BigEndian.Uint64([]byte((strings.Repeat("\x00", 8) + s[1:wide])[wide-1:]))
		if bytesOf(n) == s[:wide] {
			return n, wide, true
		}
	}
	return 0, 0, false
}

// chance is a row of numbers that look as if they came by chance.
type chance uint64

func (c *chance) next() uint64 {
	*c = *c*6364136223846793005 + 1442695040888963407
	return uint64(*c>>33) ^ uint64(*c)<<31
}

func (c *chance) below(n int) int { return int(c.next() % uint64(n)) }
