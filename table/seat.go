package table

import (
	"slices"

	"glossary/api"
	"glossary/weights"
)

// seat is what is known of a seat of the order.
type seat struct {
	weight api.Weight
	leads  []*seat // those that are taken in its Extend, one behind the other
	reach  int     // the greatest class of a mark with which behind it the row of this seat is another one's; 0, if there is none
}

// plain is the seat of a point of which no rule speaks.
func plain(r rune) *seat { return &seat{weight: weights.Plain(r)} }

// expansion puts the seat's expansion behind l.
func (s *seat) expansion(l []api.Weight) []api.Weight {
	l = append(l, s.weight)
	for _, next := range s.leads {
		l = next.expansion(l)
	}
	return l
}

// taken is the seat of what is taken at a place of a row, and the places of its points.
func (t *Table) taken(l []rune, at int) (*seat, []int) {
	s, wide, ok := t.seats.Longest(l[at:])
	if !ok {
		return plain(l[at]), []int{at}
	}
	places := make([]int, wide)
	for i := range places {
		places[i] = at + i
	}
	row := slices.Clone(l[at : at+wide])
	passed := 0 // the greatest class of the marks that were passed over: only a greater one isn't blocked
	// Beyond its reach nothing can be taken any more: so a long row of marks isn't gone through at each of its places.
	for i := at + wide; i < len(l) && passed < s.reach; i++ {
		class := t.props.Class(l[i])
		if class == 0 {
			break
		}
		if class <= passed {
			continue
		}
		row = append(row, l[i])
		longer, ok := t.seats.Get(row)
		if !ok {
			row = row[:len(row)-1]
			passed = class
			continue
		}
		s, places = longer, append(places, i)
	}
	return s, places
}
