package order

import (
	"slices"

	"glossary/api"
	"glossary/normal"
	"glossary/points"
	"glossary/utf"
)

// seats are those of a list, as they are kept: only this package may hold them.
func (o *Order) seats(list rune) []api.Seat {
	if l, ok := o.lists[list]; ok {
		return l
	}
	return o.first(list)
}

// first are the seats that a list has at first.
func (o *Order) first(list rune) []api.Seat {
	text, e := points.Text([]rune{list})
	if e != nil || len(o.props.Decomp(list)) > 0 {
		return nil
	}
	return []api.Seat{{Text: text, List: list, Level: 1}}
}

// decomposed is a text, decomposed, and true; "" and false, if it has more points than a text that has a seat.
func (o *Order) decomposed(s string) (string, bool) {
	// Decomposed, no text has fewer points: a long one need not be decomposed.
	if utf.Count(s) > api.MaxPiece {
		return "", false
	}
	t := normal.Text(o.props, s, false)
	if utf.Count(t) > api.MaxPiece {
		return "", false
	}
	return t, true
}

// home is the list in which the seat of a decomposed text stands; false, if it has no seat.
func (o *Order) home(text string) (rune, bool) {
	if list, ok := o.homes[text]; ok {
		return list, true
	}
	// What rules have put nowhere stands where it stood at first: only points do.
	l := points.Of(text)
	if len(l) != 1 {
		return 0, false
	}
	return l[0], true
}

// place is the place of a text's seat in its list.
func place(l []api.Seat, text string) int {
	return slices.IndexFunc(l, func(s api.Seat) bool { return s.Text == text })
}

// head is the place of the head of the seat at that place; below 0, if it has none.
func head(l []api.Seat, at int) int {
	for at >= 0 && l[at].Level != 1 {
		at--
	}
	return at
}

// take takes a text's seat out, if it has one.
func (o *Order) take(text string) {
	list, ok := o.home(text)
	if !ok {
		return
	}
	l := o.seats(list)
	at := place(l, text)
	if behind := at + 1; behind < len(l) {
		l[behind].Level = min(l[behind].Level, l[at].Level)
	}
	// The list stays, empty or not: rules have touched it.
	o.lists[list] = slices.Delete(l, at, at+1)
	delete(o.homes, text)
}

// put lets a seat stand at that place of its list.
func (o *Order) put(at int, s api.Seat) {
	o.lists[s.List] = slices.Insert(o.seats(s.List), at, s)
	o.homes[s.Text] = s.List
}
