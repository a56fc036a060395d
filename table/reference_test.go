package table_test

import (
	"slices"

	"glossary/api"
	"glossary/order"
	"glossary/points"
	"glossary/props"
	"glossary/weights"
)

// The second way: whatever is asked is asked of the order anew, step by step as the document has it; nothing is kept.

// collator is what the second way asks.
type collator struct {
	props    *props.Props
	order    *order.Order
	variable []string
}

// seat is the seat of a row; false, if it has none.
func (c collator) seat(row []rune) (api.Seat, bool) {
	s, e := points.Text(row)
	if e != nil {
		return api.Seat{}, false
	}
	seat, _, ok := c.order.Find(s)
	return seat, ok && slices.Equal(points.Of(seat.Text), row)
}

// taken are the places of what is taken at a place of a row.
func (c collator) taken(l []rune, at int) []int {
	end := len(l)
	for end > at+1 {
		if _, ok := c.seat(l[at:end]); ok {
			break
		}
		end--
	}
	row, passed := slices.Clone(l[at:end]), []rune{}
	var places []int
	for i := at; i < end; i++ {
		places = append(places, i)
	}
	for i := end; i < len(l) && c.props.Class(l[i]) > 0; i++ {
		blocked := slices.ContainsFunc(passed, func(r rune) bool { return c.props.Class(r) >= c.props.Class(l[i]) })
		if _, ok := c.seat(append(slices.Clone(row), l[i])); ok && !blocked {
			row, places = append(row, l[i]), append(places, i)
		} else {
			passed = append(passed, l[i])
		}
	}
	return places
}

// at are the points of a row at these places, and all others.
func at(l []rune, places []int) (these, others []rune) {
	for i, r := range l {
		if slices.Contains(places, i) {
			these = append(these, r)
		} else {
			others = append(others, r)
		}
	}
	return these, others
}

// leads are the seats to which a seat leads, in order.
func (c collator) leads(s api.Seat) []api.Seat {
	var all []api.Seat
	for row := points.Of(s.Extend); len(row) > 0; {
		these, others := at(row, c.taken(row, 0))
		next, ok := c.seat(these)
		if !ok {
			panic("a point of a decomposed text has no seat")
		}
		all, row = append(all, next), others
	}
	return all
}

// expansion is that of a seat that leads in no ring.
func (c collator) expansion(s api.Seat) []api.Weight {
	w, _ := weights.Of(c.order, s.Text)
	all := []api.Weight{w}
	for _, next := range c.leads(s) {
		all = append(all, c.expansion(next)...)
	}
	return all
}

// of is what a text with a seat is told.
func (c collator) of(text string) ([]api.Weight, bool) {
	s, _, ok := c.order.Find(text)
	if !ok {
		return nil, false
	}
	return c.expansion(s), true
}

// match is what is told of a place.
func (c collator) match(l []rune, place int) ([]api.Weight, []int) {
	if place < 0 || place >= len(l) {
		return nil, nil
	}
	places := c.taken(l, place)
	these, _ := at(l, places)
	if s, ok := c.seat(these); ok {
		return c.expansion(s), places
	}
	return []api.Weight{weights.Plain(l[place])}, places
}

// shifted tells whether a weight may be shifted.
func (c collator) shifted(w api.Weight) bool {
	return w.First != 0 && slices.ContainsFunc(c.variable, func(s string) bool {
		v, _ := weights.Of(c.order, s)
		return v.First == w.First
	})
}

// touched are the seats of all lists that rules have touched.
func (c collator) touched() []api.Seat {
	var all []api.Seat
	for list := range c.order.Lists() {
		all = append(all, c.order.List(list)...)
	}
	return all
}

// loops tells whether a seat leads to itself: round by round those are put together to which it leads.
func (c collator) loops(s api.Seat) bool {
	all := c.leads(s)
	for i := 0; i < len(all); i++ {
		if all[i].Text == s.Text {
			return true
		}
		for _, next := range c.leads(all[i]) {
			if !slices.Contains(all, next) {
				all = append(all, next)
			}
		}
	}
	return false
}

// count is how many weights the expansion of a seat has, where none leads in a ring; counts are those that are known.
func (c collator) count(s api.Seat, counts map[string]float64) float64 {
	if n, ok := counts[s.Text]; ok {
		return n
	}
	sum := 1.0 // with a point, as it may be greater than any integer
	for _, next := range c.leads(s) {
		sum += c.count(next, counts)
	}
	counts[s.Text] = sum
	return sum
}

// wrong is what is wrong with an order's texts that may be shifted, and with its seats.
func (c collator) wrong() api.Errno {
	for _, s := range c.variable {
		if _, _, ok := c.order.Find(s); !ok {
			return api.ErrNone
		}
	}
	all := c.touched()
	if slices.ContainsFunc(all, c.loops) {
		return api.ErrLoop
	}
	counts := map[string]float64{}
	for _, s := range all {
		if c.count(s, counts) > 64 {
			return api.ErrMany
		}
	}
	return api.OK
}

// chance is a row of numbers that look as if they came by chance.
type chance uint64

func (c *chance) below(n int) int {
	*c = *c*6364136223846793005 + 1442695040888963407
	return int(*c>>33) % n
}
