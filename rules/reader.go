package rules

import (
	"slices"
	"strings"
	"unicode/utf8"

	"glossary/api"
	"glossary/utf"
)

// What relations are about: the `&` ahead says it.
const (
	ofNothing = iota // there is none
	ofItems
	ofVariable
)

// reader goes over the tokens of a file.
type reader struct {
	tokens []api.Token // from the next one on; the end is never taken
	rules  api.Rules
	told   []string // the first words of the options ahead
	about  int
}

// giveUp gives up what is wrong at a token.
func giveUp(at api.Token, no api.Errno) { panic(api.Fault{No: no, Line: at.Line, At: at.Col}) }

// next is the token that is to be taken.
func (c *reader) next() api.Token { return c.tokens[0] }

// stands tells whether the next token is this sign.
func (c *reader) stands(sign string) bool {
	return c.next().Kind == api.TSign && c.next().Text == sign
}

// take takes the next token.
func (c *reader) take() api.Token {
	t := c.next()
	c.tokens = c.tokens[1:]
	return t
}

// text takes a text.
func (c *reader) text() api.Token {
	switch t := c.next(); t.Kind {
	case api.TText:
	case api.TEnd:
		giveUp(t, api.ErrShort)
	default:
		giveUp(t, api.ErrForm)
	}
	return c.take()
}

// item takes what stands where an item is to begin, and all that belongs to it.
func (c *reader) item() {
	t := c.next()
	switch {
	case t.Kind == api.TOption:
		c.option()
	case c.stands("&"):
		c.reset()
	case t.Kind == api.TSign && levelOf(strings.TrimSuffix(t.Text, "*")) > 0:
		c.relations()
	default:
		giveUp(t, api.ErrForm)
	}
}

// option takes an option of the rules.
func (c *reader) option() {
	t := c.take()
	word, value, _ := strings.Cut(t.Text, " ")
	o := &c.rules.Options
	switch t.Text {
	case "strength 1", "strength 2", "strength 3", "strength 4", "strength 5":
		o.Strength = int(value[0] - '0')
	case "shifted on", "shifted off":
		o.Shifted = value == "on"
	case "backwards on", "backwards off":
		o.Back = value == "on"
	default:
		giveUp(t, api.ErrOption)
	}
	if slices.Contains(c.told, word) {
		giveUp(t, api.ErrTwice)
	}
	c.told = append(c.told, word)
}

// reset takes the sign `&`, and what it goes back to.
func (c *reader) reset() {
	sign := c.take()
	x := api.Rule{Kind: api.RReset, Line: sign.Line}
	c.about = ofItems
	if c.next().Kind != api.TOption {
		x.Text = c.text().Text
		c.put(sign, x)
		return
	}
	option := c.take()
	x.Anchor = anchorOf(option.Text)
	switch {
	case option.Text == "variable":
		c.about = ofVariable
		return
	case option.Text == "before 1":
		x.Before, x.Text = true, c.text().Text
	case x.Anchor == api.ANone:
		giveUp(option, api.ErrOption)
	}
	c.put(sign, x)
}

// relations takes a sign of relations, and all of them.
func (c *reader) relations() {
	sign := c.take()
	name, many := strings.CutSuffix(sign.Text, "*")
	x := api.Rule{Kind: api.RRelation, Level: levelOf(name), Line: sign.Line}
	switch {
	case c.about == ofNothing:
		giveUp(sign, api.ErrReset)
	case c.about == ofVariable && x.Level != sameLevel:
		giveUp(sign, api.ErrLevel)
	case many:
		c.row(sign, x)
	default:
		c.relation(sign, x)
	}
}

// relation takes what stands behind a sign without `*`: x is all that it says.
func (c *reader) relation(sign api.Token, x api.Rule) {
	x.Text = c.text().Text
	if c.stands("/") {
		x.Extend = c.extend()
	}
	c.put(sign, x)
}

// extend takes the sign `/`, and the text behind it.
func (c *reader) extend() string {
	sign := c.take()
	if c.about == ofVariable {
		giveUp(sign, api.ErrForm)
	}
	t := c.text()
	if t.Text == "" {
		giveUp(t, api.ErrArg)
	}
	return t.Text
}

// row takes what stands behind a sign with `*`: x is what it says of each relation.
func (c *reader) row(sign api.Token, x api.Rule) {
	text := c.text().Text
	c.putUnits(sign, x, text)
	for c.stands("-") {
		dash := c.take()
		// What is wrong with the text ahead is so whatever comes behind: it is told first.
		last, wide := utf.Before(text, len(text))
		needCharacter(dash, last, wide)
		text = c.text().Text
		first, wide := utf.Decode(text, 0)
		needCharacter(dash, first, wide)
		switch {
		case first < last:
			giveUp(dash, api.ErrArg)
		case first == last: // It is there already.
			c.putUnits(sign, x, text[wide:])
		default:
			c.putBetween(sign, x, last, first)
			c.putUnits(sign, x, text)
		}
	}
}

// needCharacter gives up at a `-`, if a unit beside it is ill-formed, or there is none.
func needCharacter(dash api.Token, r rune, wide int) {
	if wide == 0 || wide == 1 && r == api.Instead {
		giveUp(dash, api.ErrArg)
	}
}

// putUnits puts a relation for each unit of a text.
func (c *reader) putUnits(sign api.Token, x api.Rule, text string) {
	for at := range utf.All(text) {
		_, wide := utf.Decode(text, at)
		x.Text = text[at : at+wide]
		c.put(sign, x)
	}
}

// putBetween puts a relation for each character that lies between two.
func (c *reader) putBetween(sign api.Token, x api.Rule, last, first rune) {
	for r := last + 1; r < first; r++ {
		if utf8.ValidRune(r) {
			x.Text = utf.Encode(r)
			c.put(sign, x)
		}
	}
}

// put puts an item, or a text that may be shifted, behind those ahead. It is called when all tokens of these are taken, as what is wrong with one of them is told ahead of their number.
func (c *reader) put(sign api.Token, x api.Rule) {
	r := &c.rules
	switch {
	case len(r.Items)+len(r.Variable) == api.MaxRules:
		giveUp(sign, api.ErrMany)
	case c.about == ofVariable:
		r.Variable = append(r.Variable, x.Text)
	default:
		r.Items = append(r.Items, x)
	}
}
