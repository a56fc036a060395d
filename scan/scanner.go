package scan

import (
	"strings"

	"glossary/api"
	"glossary/utf"
)

// The states of a scanner: what the unit ahead belongs to, and so what the next one may go on with.
const (
	between = iota // no token
	remark
	sign
	option
	plain   // a text: the next piece may begin
	quoted  // a quoted piece
	closing // a quote in it: alone it is the piece's end
	escape
)

// scanner goes over the units of a file.
type scanner struct {
	file   string
	state  int
	here   place  // of the unit that is taken
	from   place  // with which the token begins, or else may begin
	text   []byte // of the text that is open: what its pieces are up to here
	quote  place  // with which its last quoted piece begins
	behind int    // the byte behind its last escape
	tokens []api.Token
}

// token takes the next unit. It begins with the state in which the unit ahead has left it, and goes on from state to state till one has taken the unit.
func (c *scanner) token(r rune) error {
	switch c.state {
	case between:
		goto between
	case remark:
		goto remark
	case sign:
		goto sign
	case option:
		goto option
	}

text:
	if taken, e := c.piece(r); taken || e != nil {
		return e
	}
	c.add(api.TText, string(c.text))

between:
	c.state, c.from = between, c.here
	switch {
	case isBlank(r):
		return nil
	case r == '#':
		goto remark
	case isSign(string(r)):
		goto sign
	case r == '[':
		goto option
	case r == ']':
		return c.here.fault(api.ErrBracket)
	case r == '*':
		return c.here.fault(api.ErrForm)
	}
	c.state, c.text = plain, nil
	goto text

remark:
	c.state = remark
	if r == '\n' {
		goto between
	}
	return nil

sign:
	c.state = sign
	if !isSign(c.since() + string(r)) {
		c.add(api.TSign, c.since())
		goto between
	}
	return nil

option:
	c.state = option
	if r == ']' {
		c.add(api.TOption, evened(c.since()[1:]))
		c.state = between
	}
	return nil
}

// piece takes the next unit into the text that is open, from state to state as token does; false, if it belongs to the text no more.
func (c *scanner) piece(r rune) (bool, error) {
	switch c.state {
	case quoted:
		goto quoted
	case closing:
		goto closing
	case escape:
		goto escape
	}

plain:
	c.state = plain
	switch {
	case r == '\'':
		c.state, c.quote = quoted, c.here
	case r == '\\':
		return true, c.escape()
	case isBlank(r) || isSigns(r):
		return false, nil
	default:
		c.text = append(c.text, c.unit()...)
	}
	return true, nil

quoted:
	if r == '\'' {
		c.state = closing
	} else {
		c.text = append(c.text, c.unit()...)
	}
	return true, nil

closing:
	if r != '\'' {
		goto plain
	}
	c.text = append(c.text, '\'')
	c.state = quoted
	return true, nil

escape:
	if c.here.at >= c.behind {
		goto plain
	}
	return true, nil
}

// escape takes a whole escape into the text. Its units are still to come: the state lets them pass.
func (c *scanner) escape() error {
	text, wide := unescaped(c.file[c.here.at:])
	if wide == 0 {
		return c.here.fault(api.ErrEscape)
	}
	c.text = append(c.text, text...)
	c.state, c.behind = escape, c.here.at+wide
	return nil
}

// end is what a file comes to when all its units are taken.
func (c *scanner) end() ([]api.Token, error) {
	switch c.state {
	case option:
		return nil, c.from.fault(api.ErrBracket)
	case quoted:
		return nil, c.quote.fault(api.ErrQuote)
	}
	c.add(api.TEnd, "")
	return c.tokens, nil
}

// add puts a token behind the others. Its text is a copy, as a piece of the file would keep all of it in memory.
func (c *scanner) add(kind int, text string) {
	c.tokens = append(c.tokens, api.Token{Kind: kind, Text: strings.Clone(text), Line: c.from.line, Col: c.from.col, At: c.from.at})
}

// since is what stands in the file from the token's beginning up to here.
func (c *scanner) since() string { return c.file[c.from.at:c.here.at] }

// unit is the bytes of the unit that is taken; the number alone doesn't tell an ill-formed one.
func (c *scanner) unit() string {
	_, wide := utf.Decode(c.file, c.here.at)
	return c.file[c.here.at:][:wide]
}
