package order

import "glossary/api"

// builder does the items of rules, one by one.
type builder struct {
	order  *Order
	anchor anchor
}

// anchor is where the next relation's text is to be put.
type anchor struct {
	there bool   // a reset was there
	list  rune   // the list that is the anchor, or in which its seat stands
	text  string // of its seat; "", if it is the list
	ahead bool   // the text is to be put ahead of that seat, not behind it
}

// item does one item, and tells what is wrong with it.
func (b *builder) item(x api.Rule) api.Errno {
	switch x.Kind {
	case api.RReset:
		return b.reset(x)
	case api.RRelation:
		return b.relation(x)
	}
	return api.ErrArg
}

// reset goes back to a text, or to one of the lists that belong to no point.
func (b *builder) reset(x api.Rule) api.Errno {
	var list rune
	switch x.Anchor {
	case api.ANone:
		return b.resetTo(x.Text, x.Before)
	case api.AIgnored:
		list = api.ListIgnored
	case api.AFirst:
		list = api.ListFirst
	case api.ALast:
		list = api.ListLast
	default:
		return api.ErrArg
	}
	if x.Before {
		return api.ErrReset
	}
	b.anchor = anchor{there: true, list: list}
	return api.OK
}

// resetTo goes back to a text, or to what stands ahead of its head.
func (b *builder) resetTo(s string, before bool) api.Errno {
	if s == "" {
		return api.ErrShort
	}
	text, short := b.order.decomposed(s)
	if !short {
		return api.ErrMany
	}
	list, ok := b.order.home(text)
	if !ok {
		return api.ErrReset
	}
	if before {
		l := b.order.seats(list)
		at := head(l, place(l, text))
		if at < 0 {
			return api.ErrReset
		}
		text = l[at].Text
	}
	b.anchor = anchor{there: true, list: list, text: text, ahead: before}
	return api.OK
}

// relation moves its text to the anchor.
func (b *builder) relation(x api.Rule) api.Errno {
	a := b.anchor
	if !a.there {
		return api.ErrReset
	}
	if x.Text == "" {
		return api.ErrShort
	}
	text, short := b.order.decomposed(x.Text)
	extend, also := b.order.decomposed(x.Extend)
	switch {
	case !short || !also:
		return api.ErrMany
	case !a.allows(x.Level):
		return api.ErrLevel
	case text == a.text:
		return api.ErrArg
	}
	b.order.take(text)
	// Only a list that is the anchor may be empty: a seat that is the anchor stands in its list.
	if l := b.order.seats(a.list); len(l) == 0 && x.Level != 1 && a.list != api.ListIgnored {
		return api.ErrLevel
	}
	b.order.put(b.room(x.Level), api.Seat{Text: text, List: a.list, Level: x.Level, Extend: extend})
	b.anchor = anchor{there: true, list: a.list, text: text}
	return api.OK
}

// allows tells whether a relation may have that level at the anchor, whatever stands there.
func (a anchor) allows(level int) bool {
	switch {
	case level < 1 || level > 4:
		return false
	case level == 1:
		return a.list != api.ListIgnored
	}
	return !a.ahead
}

// room is the place in the anchor's list at which a seat of that level is to stand.
func (b *builder) room(level int) int {
	a := b.anchor
	l := b.order.seats(a.list)
	if a.text == "" {
		return len(l)
	}
	at := place(l, a.text)
	if a.ahead {
		return at
	}
	for at++; at < len(l) && l[at].Level > level; {
		at++
	}
	return at
}
