package rules_test

import (
	"errors"
	"fmt"
	"slices"
	"strings"

	"glossary/api"
	"glossary/points"
	"glossary/scan"
)

// A second way to the same things, from the document's words alone: the tokens come one by one to a walk that knows only what may stand where it is; and a form is put together out of lines. The tests hold the package against it.

const (
	maxRules  = 4096
	maxSource = 1048576
)

// What a walk has come to.
const (
	begin        = "an item is to begin"
	toReset      = "behind &"
	toBefore     = "behind [before 1]"
	toText       = "behind a sign of one relation"
	behindText   = "behind its text"
	toExtend     = "behind /"
	toRow        = "behind a sign of many relations, or behind -"
	behindRow    = "behind a text of these"
	itemsFollow  = "items"
	texts        = "texts of variable"
	nothingAhead = ""
)

// walk is what the tokens up to here come to.
type walk struct {
	state, about string
	rules        api.Rules
	options      []string
	sign, dash   api.Token
	between      bool // behind `-`
	item         api.Rule
	ahead        []rune // the points of the last text of a row
}

// told are the rules of a file; or what is wrong with it.
func told(s string) (api.Rules, api.Fault) {
	l, e := scan.Scan(s)
	var f api.Fault
	if errors.As(e, &f) {
		return api.Rules{}, f
	}
	w := &walk{state: begin, rules: api.Rules{Options: api.Options{Strength: 3}}}
	for _, t := range l {
		if at, no := w.step(t); no != api.OK {
			return api.Rules{}, api.Fault{No: no, Line: at.Line, At: at.Col}
		}
	}
	return w.rules, api.Fault{}
}

// is tells whether a token is one of these signs.
func is(t api.Token, signs ...string) bool {
	return t.Kind == api.TSign && slices.Contains(signs, t.Text)
}

// step takes a token; or tells where something is wrong, and what.
func (w *walk) step(t api.Token) (api.Token, api.Errno) {
	switch w.state {
	case behindText:
		if is(t, "/") {
			w.state = toExtend
			return t, map[string]api.Errno{itemsFollow: api.OK, texts: api.ErrForm}[w.about]
		}
		if no := w.add(w.item); no != api.OK {
			return w.sign, no
		}
	case behindRow:
		if is(t, "-") {
			w.state, w.dash, w.between = toRow, t, true
			if len(w.ahead) == 0 || w.ahead[len(w.ahead)-1] > 0x10ffff {
				return t, api.ErrArg
			}
			return t, api.OK
		}
	case toReset:
		return w.reset(t)
	case toBefore, toText, toExtend, toRow:
		if t.Kind == api.TEnd {
			return t, api.ErrShort
		}
		if t.Kind != api.TText {
			return t, api.ErrForm
		}
		return w.text(t)
	}
	return w.begin(t)
}

// begin takes a token where an item is to begin.
func (w *walk) begin(t api.Token) (api.Token, api.Errno) {
	w.state, w.sign, w.between, w.ahead = begin, t, false, nil
	if t.Kind == api.TEnd {
		return t, api.OK
	}
	if t.Kind == api.TOption {
		return t, w.option(t.Text)
	}
	if is(t, "&") {
		w.state, w.about, w.item = toReset, itemsFollow, api.Rule{Kind: api.RReset, Line: t.Line}
		return t, api.OK
	}
	if !is(t, "<", "<<", "<<<", "=", "<*", "<<*", "<<<*", "=*") {
		return t, api.ErrForm
	}
	if w.about == nothingAhead {
		return t, api.ErrReset
	}
	if w.about == texts && !is(t, "=", "=*") {
		return t, api.ErrLevel
	}
	level := strings.Count(t.Text, "<")
	if level == 0 {
		level = 4
	}
	w.state, w.item = toText, api.Rule{Kind: api.RRelation, Level: level, Line: t.Line}
	if strings.HasSuffix(t.Text, "*") {
		w.state = toRow
	}
	return t, api.OK
}

// option takes an option of the rules.
func (w *walk) option(s string) api.Errno {
	o := &w.rules.Options
	var word string
	var n int
	switch {
	case s == "shifted on" || s == "shifted off":
		word, o.Shifted = "shifted", s == "shifted on"
	case s == "backwards on" || s == "backwards off":
		word, o.Back = "backwards", s == "backwards on"
	default:
		if k, _ := fmt.Sscanf(s, "strength %d", &n); k != 1 || s != fmt.Sprintf("strength %d", n) || n < 1 || n > 5 {
			return api.ErrOption
		}
		word, o.Strength = "strength", n
	}
	if slices.Contains(w.options, word) {
		return api.ErrTwice
	}
	w.options = append(w.options, word)
	return api.OK
}

// reset takes a token behind `&`.
func (w *walk) reset(t api.Token) (api.Token, api.Errno) {
	w.state = begin
	switch {
	case t.Kind == api.TEnd:
		return t, api.ErrShort
	case t.Kind == api.TText:
		w.item.Text = t.Text
	case t.Kind != api.TOption:
		return t, api.ErrForm
	case t.Text == "variable":
		w.about = texts
		return t, api.OK
	case t.Text == "before 1":
		w.item.Before = true
		w.state = toBefore
		return t, api.OK
	case t.Text == "ignored":
		w.item.Anchor = 1
	case t.Text == "first":
		w.item.Anchor = 2
	case t.Text == "last":
		w.item.Anchor = 3
	default:
		return t, api.ErrOption
	}
	return w.sign, w.add(w.item)
}

// text takes a text where one must be.
func (w *walk) text(t api.Token) (api.Token, api.Errno) {
	switch w.state {
	case toText:
		w.item.Text, w.state = t.Text, behindText
		return t, api.OK
	case toExtend:
		if t.Text == "" {
			return t, api.ErrArg
		}
		w.item.Extend, w.state = t.Text, begin
	case toBefore:
		w.item.Text, w.state = t.Text, begin
	case toRow:
		w.state = behindRow
		return w.row(points.Of(t.Text))
	}
	return w.sign, w.add(w.item)
}

// row takes the points of a text of a row.
func (w *walk) row(l []rune) (api.Token, api.Errno) {
	rest := l
	if w.between {
		last := w.ahead[len(w.ahead)-1]
		if len(l) == 0 || l[0] > 0x10ffff || l[0] < last {
			return w.dash, api.ErrArg
		}
		rest = nil
		for r := last + 1; r <= l[0]; r++ {
			if r < 0xd800 || r > 0xdfff {
				rest = append(rest, r)
			}
		}
		rest = append(rest, l[1:]...)
	}
	w.ahead = l
	for _, r := range rest {
		x := w.item
		x.Text, _ = points.Text([]rune{r})
		if no := w.add(x); no != api.OK {
			return w.sign, no
		}
	}
	return w.sign, api.OK
}

// add puts an item, or a text of Variable, behind the others.
func (w *walk) add(x api.Rule) api.Errno {
	if w.about == texts {
		w.rules.Variable = append(w.rules.Variable, x.Text)
	} else {
		w.rules.Items = append(w.rules.Items, x)
	}
	if len(w.rules.Items)+len(w.rules.Variable) > maxRules {
		return api.ErrMany
	}
	return api.OK
}

// wrongOf is what is wrong with an item, the how-manyth of these it is.
func wrongOf(l []api.Rule, i int) api.Errno {
	x := l[i]
	behind := slices.ContainsFunc(l[:i], func(y api.Rule) bool { return y.Kind == 1 })
	for _, f := range []struct {
		no    api.Errno
		wrong bool
	}{
		{api.ErrForm, x.Kind != 1 && x.Kind != 2},
		{api.ErrForm, x.Kind == 1 && (x.Anchor < 0 || x.Anchor > 3)},
		{api.ErrForm, x.Kind == 1 && x.Level != 0},
		{api.ErrForm, x.Kind == 1 && x.Extend != ""},
		{api.ErrForm, x.Kind == 1 && x.Anchor != 0 && x.Before},
		{api.ErrForm, x.Kind == 1 && x.Anchor != 0 && x.Text != ""},
		{api.ErrReset, x.Kind == 2 && !behind},
		{api.ErrLevel, x.Kind == 2 && (x.Level < 1 || x.Level > 4)},
		{api.ErrForm, x.Kind == 2 && x.Before},
		{api.ErrForm, x.Kind == 2 && x.Anchor != 0},
	} {
		if f.wrong {
			return f.no
		}
	}
	return api.OK
}

// formOf is the form of rules; or what is wrong with them.
func formOf(r api.Rules) (string, api.Errno) {
	if r.Options.Strength < 1 || r.Options.Strength > 5 {
		return "", api.ErrOption
	}
	if len(r.Items)+len(r.Variable) > maxRules {
		return "", api.ErrMany
	}
	var lines [][]string // each a row of words
	if r.Options.Strength != 3 {
		lines = append(lines, []string{fmt.Sprintf("[strength %d]", r.Options.Strength)})
	}
	if r.Options.Shifted {
		lines = append(lines, []string{"[shifted on]"})
	}
	if r.Options.Back {
		lines = append(lines, []string{"[backwards on]"})
	}
	for i, s := range r.Variable {
		if i == 0 {
			lines = append(lines, []string{"&", "[variable]"})
		}
		lines[len(lines)-1] = append(lines[len(lines)-1], "=", scan.Quote(s))
	}
	for i, x := range r.Items {
		if no := wrongOf(r.Items, i); no != api.OK {
			return "", no
		}
		if x.Kind == 1 {
			lines = append(lines, resetWords(x))
			continue
		}
		words := []string{[]string{"", "<", "<<", "<<<", "="}[x.Level], scan.Quote(x.Text)}
		if x.Extend != "" {
			words = append(words, "/", scan.Quote(x.Extend))
		}
		lines[len(lines)-1] = append(lines[len(lines)-1], words...)
	}
	form := ""
	for _, words := range lines {
		form += strings.Join(words, " ") + "\n"
	}
	if len(form) > maxSource {
		return "", api.ErrMany
	}
	return form, api.OK
}

// resetWords are the words of a reset.
func resetWords(x api.Rule) []string {
	words := []string{"&"}
	if x.Before {
		words = append(words, "[before 1]")
	}
	if x.Anchor == 0 {
		return append(words, scan.Quote(x.Text))
	}
	return append(words, []string{"", "[ignored]", "[first]", "[last]"}[x.Anchor])
}

// chance is a row of numbers that looks like chance and is always the same.
type chance uint64

// below is a number from 0 on, and less than n.
func (c *chance) below(n int) int {
	*c = *c*6364136223846793005 + 1442695040888963407
	return int(*c>>33) % n
}

// of is one of these.
func (c *chance) of(l ...string) string { return l[c.below(len(l))] }

// file is one of fewer than n of these pieces, with a blank between.
func (c *chance) file(n int, pieces []string) string {
	var b strings.Builder
	for range c.below(n) {
		b.WriteString(c.of(pieces...))
		b.WriteString(c.of(" ", " ", " ", "\n", "\t", " # x\n"))
	}
	return b.String()
}

// pieces are tokens of each kind, as they stand in files.
func pieces() []string {
	return []string{
		"&", "<", "<<", "<<<", "=", "<*", "<<*", "<<<*", "=*", "/", "-", "[ignored]", "[first]", "[last]", "[before 1]", "[variable]", "[shifted on]", "[strength 2]", "[backwards off]", "[]", "''", "a", "c", "bd", "é", "\\xff", "e\\x80", "\\xfff", "'x y'",
	}
}

// quoted is a text of few units, as it stands in a file.
func (c *chance) quoted() string {
	s := ""
	for range c.below(4) {
		s += c.of("a", "b", "ch", "é", "\xff", "\x80", " ", "\n", "-", "'", "*", "\\", "\U0001f468", "\ufffd")
	}
	return scan.Quote(s)
}

// right is a file of fewer than n pieces that is right; with options, if it may have such.
func (c *chance) right(n int, options bool) string {
	var l []string
	put := func(s string) { l = append(l, s, c.of(" ", "  ", " ", "\n", "\t\r\n", " # x & [\n")) }
	if options {
		for _, word := range []string{"strength", "shifted", "backwards"} {
			if c.below(2) == 0 {
				put("[" + word + c.of(" ", "\n\t") + map[string]string{"strength": c.of("1", "2", "3", "4", "5"), "shifted": c.of("on", "off"), "backwards": c.of("on", "off ")}[word] + "]")
			}
		}
	}
	variable := false
	for i := range c.below(n) {
		if i == 0 || c.below(3) == 0 {
			variable = c.below(4) == 0
			if put("&"); variable {
				put("[variable]")
			} else {
				put(c.of("[ignored]", "[first]", "[ last ]", "[before 1] "+c.quoted(), c.quoted(), c.quoted()))
			}
			continue
		}
		sign := c.of("<", "<<", "<<<", "=")
		if variable {
			sign = "="
		}
		switch c.below(3) {
		case 0:
			put(sign + "*" + c.of("", " ") + c.of("''", c.quoted(), "a-e", "\\xffb-b\\xff", "xa - bc-eyz - z-z", "\ud7fe-\ue001\\xfe"))
		case 1:
			put(sign + c.of("", " ") + c.quoted())
		default:
			if put(sign + c.quoted()); !variable {
				put("/" + c.of("", "\n") + c.of("a", "\\xff", "' '", "ch"))
			}
		}
	}
	if !options { // These go behind another file, which begins with `&`.
		return c.of("", " ", "\n#\n") + "&" + c.of("a ", "[first]", "[variable]\n", "''") + strings.Join(l, "")
	}
	return strings.Join(l, "")
}
