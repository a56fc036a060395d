package table

import (
	"slices"

	"glossary/api"
	"glossary/order"
	"glossary/points"
	"glossary/weights"
)

// extended is a seat, and the points of its Extend.
type extended struct {
	seat *seat
	row  []rune
}

// put puts the seats of all lists that rules have touched under the points of their texts, and tells those that have an Extend.
func (t *Table) put(o *order.Order) []extended {
	var all []extended
	for list := range o.Lists() {
		for _, x := range o.List(list) {
			w, _ := weights.Of(o, x.Text) // It has a seat: this one.
			s := &seat{weight: w}
			t.seats.Put(points.Of(x.Text), s)
			if x.Extend != "" {
				all = append(all, extended{s, points.Of(x.Extend)})
			}
		}
	}
	return all
}

// reach tells each seat how far marks behind it reach.
func (t *Table) reach() {
	for row := range t.seats.All() {
		last := len(row) - 1
		class := t.props.Class(row[last])
		if last == 0 || class == 0 {
			continue
		}
		if s, ok := t.ahead(row[:last]); ok {
			s.reach = max(s.reach, class)
		}
	}
}

// ahead is the seat of a row behind which a mark stands in another one; false, if it has none: then it is never taken.
func (t *Table) ahead(row []rune) (*seat, bool) {
	s, ok := t.seats.Get(row)
	if !ok && len(row) == 1 {
		s, ok = plain(row[0]), true
		t.seats.Put(row, s)
	}
	return s, ok
}

// lead tells each seat what is taken in its Extend.
func (t *Table) lead(all []extended) {
	for _, x := range all {
		for row := x.row; len(row) > 0; {
			s, places := t.taken(row, 0)
			x.seat.leads = append(x.seat.leads, s)
			for _, at := range slices.Backward(places) {
				row = slices.Delete(row, at, at+1)
			}
		}
	}
}

// measured is what is wrong with expansions: ErrLoop, if a seat leads to itself; else ErrMany, if one has too many weights.
func measured(all []extended) api.Errno {
	const midst = -1
	counts := map[*seat]int{} // of weights, none above one too many; midst, while those to which it leads are counted
	most := 0
	var count func(s *seat) bool
	count = func(s *seat) bool {
		if n, ok := counts[s]; ok {
			return n != midst
		}
		counts[s] = midst
		sum := 1
		for _, next := range s.leads {
			if !count(next) {
				return false
			}
			sum += counts[next]
		}
		counts[s] = min(sum, api.MaxElements+1)
		most = max(most, sum)
		return true
	}
	for _, x := range all {
		if !count(x.seat) {
			return api.ErrLoop
		}
	}
	if most > api.MaxElements {
		return api.ErrMany
	}
	return api.OK
}
