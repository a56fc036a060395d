package order_test

import (
	"slices"

	"glossary/api"
	"glossary/normal"
	"glossary/points"
	"glossary/props"
)

// The second way: seats are links, each with the one ahead and the one behind; the anchor is a link itself. The seat of a point is there as soon as somebody asks for it.

// link is a seat between two others.
type link struct {
	seat          api.Seat
	ahead, behind *link
}

// chains are lists of links: ends are the last links of the lists, ahead of which all others stand.
type chains struct {
	props   *props.Props
	ends    map[rune]*link
	links   map[string]*link
	points  map[rune]bool // whose seats are there
	touched map[rune]bool

	reset  bool  // a reset was there
	list   rune  // the anchor, if it is a list
	anchor *link // the anchor, if it is a seat; with before the head
	before bool
}

// newChains are the lists as they are at first.
func newChains(p *props.Props) *chains {
	return &chains{props: p, ends: map[rune]*link{}, links: map[string]*link{}, points: map[rune]bool{}, touched: map[rune]bool{}}
}

// open lets a point have the seat that it has at first.
func (c *chains) open(r rune) {
	s, e := points.Text([]rune{r})
	if e != nil || c.points[r] {
		return
	}
	c.points[r] = true
	if len(c.props.Decomp(r)) == 0 {
		c.join(&link{seat: api.Seat{Text: s, List: r, Level: 1}}, nil)
	}
}

// link is that of a decomposed text; nil, if it has no seat.
func (c *chains) link(text string) *link {
	if l := points.Of(text); len(l) == 1 {
		c.open(l[0])
	}
	return c.links[text]
}

// join lets a link stand behind another one of its list; as the first one, if there is none.
func (c *chains) join(x, ahead *link) {
	list := x.seat.List
	if ahead != nil {
		x.ahead, x.behind, ahead.behind = ahead, ahead.behind, x
	} else if x.behind = c.begin(list); x.behind != nil {
		x.behind.ahead = x
	}
	if x.behind != nil {
		x.behind.ahead = x
	} else {
		c.ends[list] = x
	}
	c.links[x.seat.Text] = x
}

// begin is the first link of a list; nil, if it is empty.
func (c *chains) begin(list rune) *link {
	x := c.ends[list]
	for x != nil && x.ahead != nil {
		x = x.ahead
	}
	return x
}

// part takes a link out of its list.
func (c *chains) part(x *link) {
	if x.behind != nil {
		x.behind.ahead = x.ahead
		if x.seat.Level < x.behind.seat.Level {
			x.behind.seat.Level = x.seat.Level
		}
	} else {
		c.ends[x.seat.List] = x.ahead
	}
	if x.ahead != nil {
		x.ahead.behind = x.behind
	}
	c.touched[x.seat.List] = true
}

// seats are those of a list, from the last one on, turned about.
func (c *chains) seats(list rune) []api.Seat {
	c.open(list)
	var l []api.Seat
	for x := c.ends[list]; x != nil; x = x.ahead {
		l = append(l, x.seat)
	}
	slices.Reverse(l)
	return l
}

// decomposed is a text's decomposed text, and how many points it has.
func (c *chains) decomposed(s string) (string, int) {
	s = normal.Text(c.props, s, false)
	return s, len(points.Of(s))
}

// wrong is what is wrong with an item, in the order in which the document names it.
func (c *chains) wrong(x api.Rule) api.Errno {
	text, n := c.decomposed(x.Text)
	_, more := c.decomposed(x.Extend)
	switch {
	case x.Kind == api.RReset:
		return c.wrongReset(x, text, n)
	case x.Kind != api.RRelation:
		return api.ErrArg
	case !c.reset:
		return api.ErrReset
	case x.Text == "":
		return api.ErrShort
	case n > api.MaxPiece, more > api.MaxPiece:
		return api.ErrMany
	}
	if c.anchor == nil {
		switch own := c.link(text); {
		case x.Level < 1, x.Level > 4, x.Level == 1 && c.list == api.ListIgnored:
			return api.ErrLevel
		case x.Level == 1, c.list == api.ListIgnored:
			return api.OK
		case c.ends[c.list] == nil, c.ends[c.list] == own && own.ahead == nil:
			return api.ErrLevel
		}
		return api.OK
	}
	switch {
	case x.Level < 1, x.Level > 4, x.Level != 1 && c.before, x.Level == 1 && c.anchor.seat.List == api.ListIgnored:
		return api.ErrLevel
	case c.anchor.seat.Text == text:
		return api.ErrArg
	}
	return api.OK
}

// wrongReset is what is wrong with a reset to a text of n points, or to a list.
func (c *chains) wrongReset(x api.Rule, text string, n int) api.Errno {
	switch {
	case x.Anchor == api.AIgnored || x.Anchor == api.AFirst || x.Anchor == api.ALast:
		if x.Before {
			return api.ErrReset
		}
	case x.Anchor != api.ANone:
		return api.ErrArg
	case x.Text == "":
		return api.ErrShort
	case n > api.MaxPiece:
		return api.ErrMany
	case c.link(text) == nil || x.Before && c.link(text).head() == nil:
		return api.ErrReset
	}
	return api.OK
}

// head is a link's head; nil, if there is none.
func (x *link) head() *link {
	if x == nil || x.seat.Level == 1 {
		return x
	}
	return x.ahead.head()
}

// do does an item with which nothing is wrong.
func (c *chains) do(x api.Rule) {
	text, _ := c.decomposed(x.Text)
	if x.Kind == api.RReset {
		c.reset, c.anchor, c.before = true, nil, x.Before
		switch x.Anchor {
		case api.AIgnored:
			c.list = api.ListIgnored
		case api.AFirst:
			c.list = api.ListFirst
		case api.ALast:
			c.list = api.ListLast
		default:
			c.anchor = c.link(text)
		}
		if x.Before {
			c.anchor = c.anchor.head()
		}
		return
	}
	if own := c.link(text); own != nil {
		c.part(own)
	}
	extend, _ := c.decomposed(x.Extend)
	list, ahead := c.list, c.ends[c.list]
	if c.anchor != nil {
		list, ahead = c.anchor.seat.List, c.anchor
		for ahead.behind != nil && ahead.behind.seat.Level > x.Level {
			ahead = ahead.behind
		}
	}
	if c.before {
		ahead = c.anchor.ahead
	}
	put := &link{seat: api.Seat{Text: text, List: list, Level: x.Level, Extend: extend}}
	c.join(put, ahead)
	c.touched[list] = true
	c.anchor, c.before = put, false
}

// lists are the numbers of the lists that were touched, rising.
func (c *chains) lists() []rune {
	var l []rune
	for n := range c.touched {
		l = append(l, n)
	}
	slices.Sort(l)
	return l
}

// built does rules; what is wrong with them is told, and the item's line.
func built(p *props.Props, r api.Rules) (*chains, api.Fault) {
	switch {
	case r.Options.Strength < 1 || r.Options.Strength > 5:
		return nil, api.Fault{No: api.ErrOption}
	case len(r.Items) > 4096:
		return nil, api.Fault{No: api.ErrMany}
	}
	c := newChains(p)
	for _, x := range r.Items {
		if no := c.wrong(x); no != api.OK {
			return nil, api.Fault{No: no, Line: x.Line}
		}
		c.do(x)
	}
	return c, api.Fault{}
}

// chance is a row of numbers that look as if they came by chance.
type chance uint64

func (c *chance) below(n int) int {
	*c = *c*6364136223846793005 + 1442695040888963407
	return int(*c>>33) % n
}
