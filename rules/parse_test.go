package rules_test

import (
	"errors"
	"fmt"
	"slices"
	"strings"
	"sync"
	"testing"

	"glossary/api"
	"glossary/rules"
)

// The calls have the signatures that the chapter lists.
var (
	_ func(string) (api.Rules, error) = rules.Parse
	_ func(api.Rules) (string, error) = rules.Print
)

// alike tells whether rules are the same; a list that is nil and one that is empty are.
func alike(a, b api.Rules) bool {
	return a.Options == b.Options && slices.Equal(a.Variable, b.Variable) && slices.Equal(a.Items, b.Items)
}

// empty tells whether rules are those that stand beside an error.
func empty(r api.Rules) bool { return alike(r, api.Rules{}) }

// numbered tells whether an error is this number, and no other one.
func numbered(e error, want api.Errno) bool {
	for n := api.OK; n <= api.ErrBracket; n++ {
		if errors.Is(e, n) != (n == want) {
			return false
		}
	}
	return true
}

// refused tells what is wrong with an answer that should be this fault and nothing else.
func refused(r api.Rules, e error, want api.Fault) string {
	var f api.Fault
	switch {
	case !empty(r):
		return "there are rules beside the error"
	case !errors.As(e, &f):
		return "no place is told"
	case f != want:
		return "another place, or another number"
	case !numbered(e, want.No):
		return "it is told to be what it isn't, or not what it is"
	}
	return ""
}

// parsed are the rules of a file that is right.
func parsed(t *testing.T, s string) api.Rules {
	t.Helper()
	r, e := rules.Parse(s)
	if e != nil {
		t.Fatalf("Parse(%.200q): %#v", s, e)
	}
	return r
}

// has checks that a file has no options, and just these texts that may be shifted, and these items.
func has(t *testing.T, s string, variable []string, items ...api.Rule) {
	t.Helper()
	want := api.Rules{Options: api.Options{Strength: 3}, Variable: variable, Items: items}
	if r := parsed(t, s); !alike(r, want) {
		t.Errorf("Parse(%.200q): %.500v; want %.500v", s, r, want)
	}
	check(t, s)
}

// refuses checks that a file is refused at a place.
func refuses(t *testing.T, s string, no api.Errno, line, at int) {
	t.Helper()
	r, e := rules.Parse(s)
	if wrong := refused(r, e, api.Fault{No: no, Line: line, At: at}); wrong != "" {
		t.Errorf("Parse(%.200q): %s: %v %#v; want %v at %d:%d", s, wrong, e, e, no, line, at)
	}
	if _, fault := told(s); fault != (api.Fault{No: no, Line: line, At: at}) {
		t.Errorf("the second way: %.200q: %#v", s, fault)
	}
}

// check stops the test at the first file of which something is told that is wrong, held against the second way.
func check(t *testing.T, s string) {
	t.Helper()
	r, e := rules.Parse(s)
	want, fault := told(s)
	if fault.No != api.OK {
		if wrong := refused(r, e, fault); wrong != "" {
			t.Fatalf("Parse(%.200q): %s: %v %#v; want %#v", s, wrong, e, e, fault)
		}
	} else if e != nil || !alike(r, want) {
		t.Fatalf("Parse(%.200q): %.500v, %#v; want %.500v", s, r, e, want)
	}
}

// Items of the line 1.
func reset(text string) api.Rule { return api.Rule{Kind: api.RReset, Text: text, Line: 1} }
func before(text string) api.Rule {
	return api.Rule{Kind: api.RReset, Before: true, Text: text, Line: 1}
}
func anchored(anchor int) api.Rule { return api.Rule{Kind: api.RReset, Anchor: anchor, Line: 1} }
func relation(level int, text string) api.Rule {
	return api.Rule{Kind: api.RRelation, Level: level, Text: text, Line: 1}
}
func extended(level int, text, extend string) api.Rule {
	return api.Rule{Kind: api.RRelation, Level: level, Text: text, Extend: extend, Line: 1}
}

// at is an item, in another line.
func at(line int, x api.Rule) api.Rule {
	x.Line = line
	return x
}

// each are relations, one for each text.
func each(level int, l ...string) []api.Rule {
	var items []api.Rule
	for _, s := range l {
		items = append(items, relation(level, s))
	}
	return items
}

// behind is a reset to a, and items behind it.
func behind(items ...api.Rule) []api.Rule { return append([]api.Rule{reset("a")}, items...) }

// P10.1, P10.2, P10.3: the chapter's examples.
func TestExamples(t *testing.T) {
	has(t, "& a < b <<< B / c = 'x y'", nil, reset("a"), relation(1, "b"), extended(3, "B", "c"), relation(4, "x y"))
	want := api.Rules{Options: api.Options{Strength: 2, Back: true}, Items: []api.Rule{before("z"), relation(2, "é")}}
	if r := parsed(t, "[strength 2] [backwards on] & [before 1] z << é"); !alike(r, want) {
		t.Errorf("%+v", r)
	}
	has(t, "& [variable] = ' ' = '-' & [last] <* ab-ez", []string{" ", "-"}, append([]api.Rule{anchored(api.ALast)}, each(1, "a", "b", "c", "d", "e", "z")...)...)
	has(t, "", nil)
	for s, want := range map[string]api.Fault{
		"< a": {No: api.ErrReset, Line: 1, At: 1}, "a": {No: api.ErrForm, Line: 1, At: 1}, "& <": {No: api.ErrForm, Line: 1, At: 3}, "&": {No: api.ErrShort, Line: 1, At: 2}, "& a <": {No: api.ErrShort, Line: 1, At: 6}, "& [before 2] a": {No: api.ErrOption, Line: 1, At: 3},
		"& [before 1] [first]": {No: api.ErrForm, Line: 1, At: 14}, "[strength 6]": {No: api.ErrOption, Line: 1, At: 1}, "[shifted on] [shifted on]": {No: api.ErrTwice, Line: 1, At: 14}, "& a < b / ''": {No: api.ErrArg, Line: 1, At: 11}, "& a <* b / c": {No: api.ErrForm, Line: 1, At: 10},
		"& a <* b-": {No: api.ErrShort, Line: 1, At: 10}, "& a <* c-a": {No: api.ErrArg, Line: 1, At: 9}, "& a <* ''-a": {No: api.ErrArg, Line: 1, At: 10}, "& [variable] < a": {No: api.ErrLevel, Line: 1, At: 14}, "& [variable] = a / b": {No: api.ErrForm, Line: 1, At: 18},
	} {
		refuses(t, s, want.No, want.Line, want.At)
	}
}

// P10.1: files in which no item stands.
func TestNoItems(t *testing.T) {
	for _, s := range []string{"", " ", "\n", "\r\n\t ", "#", "# & a < b", "#\n", "# '[\\ *]\n\n # x\n\t", "\n\n\n#\xff"} {
		has(t, s, nil)
	}
}

// P10.1: what scan refuses, with its place, whatever else is wrong.
func TestScanErrors(t *testing.T) {
	refuses(t, strings.Repeat(" ", maxSource+1), api.ErrMany, 0, 0)
	refuses(t, strings.Repeat("a", maxSource+1), api.ErrMany, 0, 0)
	refuses(t, strings.Repeat("\n", 65536)+"a", api.ErrMany, 65537, 1)
	refuses(t, "a"+strings.Repeat("\n", 65536)+" ", api.ErrMany, 65537, 1)
	has(t, strings.Repeat(" ", maxSource), nil)
	has(t, strings.Repeat("\n", 65535)+"& a", nil, at(65536, reset("a")))
	has(t, strings.Repeat("\n", 65536), nil)
}

// P10.1: what scan refuses stands ahead of what is wrong with tokens ahead of it.
func TestScanErrorsFirst(t *testing.T) {
	for _, ahead := range []string{"", "& a < b ", "a ", "< a ", "[x] ", "& ", "& a <* c-a "} {
		for s, no := range map[string]api.Errno{"*": api.ErrForm, "]": api.ErrBracket, "[a": api.ErrBracket, "'a": api.ErrQuote, `\u{}`: api.ErrEscape, `\`: api.ErrEscape, `\x7f`: api.ErrEscape} {
			refuses(t, ahead+s, no, 1, len(ahead)+1)
			refuses(t, ahead+"\né "+s, no, 2, 3)
		}
	}
}

// P10.1: each option, alone, and where it may stand.
func TestOptions(t *testing.T) {
	for s, want := range map[string]api.Options{
		"[strength 1]": {Strength: 1}, "[strength 2]": {Strength: 2}, "[strength 3]": {Strength: 3}, "[strength 4]": {Strength: 4}, "[strength 5]": {Strength: 5}, "[shifted on]": {Strength: 3, Shifted: true}, "[shifted off]": {Strength: 3}, "[backwards on]": {Strength: 3, Back: true}, "[backwards off]": {Strength: 3},
		"[ strength\n\t4 ]": {Strength: 4}, "[shifted on][backwards on]": {Strength: 3, Shifted: true, Back: true}, "[backwards on] # x\n[strength 5]\n\n[shifted off]": {Strength: 5, Back: true}, "[shifted off][strength 1][backwards off]": {Strength: 1},
	} {
		for _, file := range []string{s, "\n" + s + " # x", s + "& a < b", "& a" + s + "< b", "& a < b" + s, "& [variable]" + s + "= b", "& a <* b-d" + s + "< b / c", "& a < b / c" + s} {
			r := parsed(t, file)
			if r.Options != want {
				t.Errorf("Parse(%q): %+v; want %+v", file, r.Options, want)
			}
			check(t, file)
		}
	}
	has(t, "& a [strength 3] < b [shifted off] = c / d [backwards off]", nil, reset("a"), relation(1, "b"), extended(4, "c", "d"))
}

// P10.1: options that are none, wherever an item may begin.
func TestNoOptions(t *testing.T) {
	for _, s := range []string{
		"[]", "[ ]", "[strength]", "[strength 0]", "[strength 6]", "[strength 10]", "[strength 03]", "[strength +3]", "[strength -1]", "[strength 3 3]", "[strength3]", "[Strength 3]", "[strength three]", "[strength ３]", "[strength '3']", "[strength \xff]", "[3]", "[shifted]", "[shifted  On]", "[shifted 1]", "[shifted on off]", "[shiftedon]", "[shift on]", "[backwards]", "[backwards no]", "[backward on]", "[backwards on #]", "[on]", "[on shifted]",
		"[ignored]", "[first]", "[last]", "[before 1]", "[variable]", "[strength\v3]", "[strength\u00a03]", "[[strength 3]", "[\\strength 3]", "[é]", "[alternate shifted]",
	} {
		refuses(t, s, api.ErrOption, 1, 1)
		refuses(t, "& a < b "+s, api.ErrOption, 1, 9)
		refuses(t, "& a\n"+s+" < "+s, api.ErrOption, 2, 1)
		refuses(t, "[strength 3] "+s+" x", api.ErrOption, 1, 14)
		refuses(t, "& [variable] "+s, api.ErrOption, 1, 14)
	}
}

// P10.1: options with the same first word, of the same value or of another one.
func TestTwice(t *testing.T) {
	words := map[string][]string{"strength": {"1", "2", "3", "4", "5"}, "shifted": {"on", "off"}, "backwards": {"on", "off"}}
	for word, values := range words {
		for _, a := range values {
			for _, b := range values {
				first, second := "["+word+" "+a+"]", "["+word+" "+b+"]"
				refuses(t, first+second, api.ErrTwice, 1, len(first)+1)
				refuses(t, first+"\n& a < b\n  "+second+" < ", api.ErrTwice, 3, 3)
				refuses(t, first+second+second, api.ErrTwice, 1, len(first)+1)
			}
			refuses(t, "["+word+" "+a+"]["+word+"]", api.ErrOption, 1, len(word+a)+4)
			refuses(t, "["+word+" "+a+"]["+word+" 9]", api.ErrOption, 1, len(word+a)+4)
		}
	}
	refuses(t, "[strength 1] [shifted on] [backwards on] & a [shifted off] [strength 2]", api.ErrTwice, 1, 46)
}

// P10.2: what may stand behind `&`.
func TestResets(t *testing.T) {
	has(t, "&a", nil, reset("a"))
	has(t, "& ''", nil, reset(""))
	has(t, "& 'x y'", nil, reset("x y"))
	has(t, `& \xffb`, nil, reset("\xffb"))
	has(t, "& variable", nil, reset("variable"))
	has(t, "& '[first]'", nil, reset("[first]"))
	has(t, "& [ignored]", nil, anchored(api.AIgnored))
	has(t, "& [ first\n]", nil, anchored(api.AFirst))
	has(t, "&[last]", nil, anchored(api.ALast))
	has(t, "& [before 1] a", nil, before("a"))
	has(t, "&[before \t 1]''", nil, before(""))
	has(t, "& [before 1]ch < b", nil, before("ch"), relation(1, "b"))
	has(t, "& a & b & [first] & [before 1] c &\n\nd", nil, reset("a"), reset("b"), anchored(api.AFirst), before("c"), reset("d"))
	has(t, "\n&\n\na\n<\n\nb\n/\nc", nil, at(2, reset("a")), at(5, extended(1, "b", "c")))
	has(t, "\n&\n[before 1]\na\n&\n[last]", nil, at(2, before("a")), at(5, anchored(api.ALast)))
}

// P10.2: what may not.
func TestWrongResets(t *testing.T) {
	for _, s := range []string{"[]", "[before 2]", "[before]", "[before 1 1]", "[before 01]", "[Before 1]", "[before1]", "[before 3]", "[First]", "[first last]", "[top]", "[variables]", "[strength 3]", "[strength 9]", "[shifted on]", "[last first]", "[é]"} {
		refuses(t, "& "+s, api.ErrOption, 1, 3)
		refuses(t, "& b < c & "+s+" < <", api.ErrOption, 1, 11)
		refuses(t, "[strength 3]\n&"+s+"/", api.ErrOption, 2, 2)
	}
	for _, sign := range []string{"&", "<", "<<", "<<<", "=", "<*", "<<*", "<<<*", "=*", "/", "-"} {
		refuses(t, "& "+sign, api.ErrForm, 1, 3)
		refuses(t, "& "+sign+" a", api.ErrForm, 1, 3)
		refuses(t, "& [before 1] "+sign, api.ErrForm, 1, 14)
		refuses(t, "& a < b\n&\n"+sign+" a", api.ErrForm, 3, 1)
	}
	for _, option := range []string{"[first]", "[ignored]", "[last]", "[before 1]", "[variable]", "[strength 3]", "[x]", "[]"} {
		refuses(t, "& [before 1] "+option, api.ErrForm, 1, 14)
		refuses(t, "& [before 1] "+option+" a", api.ErrForm, 1, 14)
	}
	refuses(t, "& ", api.ErrShort, 1, 3)
	refuses(t, "&\n", api.ErrShort, 2, 1)
	refuses(t, "& # a", api.ErrShort, 1, 6)
	refuses(t, "& a &", api.ErrShort, 1, 6)
	refuses(t, "& [before 1]", api.ErrShort, 1, 13)
	refuses(t, "& [before 1]\n ", api.ErrShort, 2, 2)
	refuses(t, "& a b", api.ErrForm, 1, 5)
	refuses(t, "& [before 1] a b", api.ErrForm, 1, 16)
	refuses(t, "& [first] a", api.ErrForm, 1, 11)
	refuses(t, "& [variable] a", api.ErrForm, 1, 14)
	refuses(t, "& a [first]", api.ErrOption, 1, 5)
	refuses(t, "& [first] [last]", api.ErrOption, 1, 11)
}

// P10.1: what may not stand where an item is to begin.
func TestNoItem(t *testing.T) {
	for _, ahead := range []string{"", "& a ", "& [last] ", "& [variable] ", "& a < b ", "& a < b / c ", "[strength 4]\t", "# x &\n"} {
		line, col := 1+strings.Count(ahead, "\n"), len(ahead[strings.LastIndexByte(ahead, '\n')+1:])+1
		for _, s := range []string{"a", "''", `\xff`, "'&'", "-"} {
			refuses(t, ahead+s, api.ErrForm, line, col)
			refuses(t, ahead+s+" < a / ''", api.ErrForm, line, col)
		}
		if !strings.HasSuffix(ahead, "b ") {
			refuses(t, ahead+"/ ''", api.ErrForm, line, col)
			refuses(t, ahead+"/ a", api.ErrForm, line, col)
		}
	}
}

// P10.3: each sign, with and without `*`.
func TestSigns(t *testing.T) {
	for level, sign := range []string{1: "<", 2: "<<", 3: "<<<", 4: "="} {
		if level == 0 {
			continue
		}
		has(t, "&a"+sign+"b", nil, reset("a"), relation(level, "b"))
		has(t, "& a "+sign+" bc "+sign+"''"+sign+"'<'", nil, reset("a"), relation(level, "bc"), relation(level, ""), relation(level, "<"))
		has(t, "& a "+sign+" bc / de "+sign+" '' / \\xff", nil, reset("a"), extended(level, "bc", "de"), extended(level, "", "\xff"))
		has(t, "& [first]"+sign+"*b", nil, anchored(api.AFirst), relation(level, "b"))
		has(t, "& a "+sign+"* bc\\xe2\\x82 "+sign+"* '' "+sign+"*é-é", nil, behind(each(level, "b", "c", "\xe2", "\x82", "é")...)...)
		has(t, "& a "+sign+"* b-b-dxa-c", nil, behind(each(level, "b", "c", "d", "x", "a", "b", "c")...)...)
		for _, s := range []string{sign + " a", sign + "* a", sign, sign + "*", sign + " / ''", sign + "* c-a"} {
			refuses(t, s, api.ErrReset, 1, 1)
			refuses(t, "[strength 5]\n "+s+" & a", api.ErrReset, 2, 2)
		}
	}
	has(t, "& a < b << c <<< d = e <* f <<* g <<<* h =* i", nil, behind(relation(1, "b"), relation(2, "c"), relation(3, "d"), relation(4, "e"), relation(1, "f"), relation(2, "g"), relation(3, "h"), relation(4, "i"))...)
	refuses(t, "& a <<<< b", api.ErrForm, 1, 8) // a sign, and another one
}

// P10.2, P10.3: texts that may be shifted, and later resets.
func TestVariable(t *testing.T) {
	has(t, "& [variable]", nil)
	has(t, "& [variable] = a =* bc-e\\xff = '' =* ''", []string{"a", "b", "c", "d", "e", "\xff", ""})
	has(t, "& [variable] = a & b < c & [variable] = a =* ' -' & [variable] & d", []string{"a", "a", " ", "-"}, reset("b"), relation(1, "c"), reset("d"))
	has(t, "& b = c & [ variable ]\n= x [shifted off] = y & [before 1] d = e / f", []string{"x", "y"}, reset("b"), relation(4, "c"), at(2, before("d")), at(2, extended(4, "e", "f")))
	for _, sign := range []string{"<", "<<", "<<<", "<*", "<<*", "<<<*"} {
		refuses(t, "& [variable] "+sign+" a", api.ErrLevel, 1, 14)
		refuses(t, "& [variable] "+sign, api.ErrLevel, 1, 14)
		refuses(t, "& a < b & [variable] = c\n"+sign+" d / e", api.ErrLevel, 2, 1)
	}
	for _, s := range []string{"= a / b", "= a /", "= a / ''", "=*a / b", "=*a /", "= a / /"} {
		refuses(t, "& [variable] "+s, api.ErrForm, 1, 14+strings.Index(s, "/"))
		refuses(t, "& x < y / z & [variable]\n"+s, api.ErrForm, 2, 1+strings.Index(s, "/"))
	}
	refuses(t, "& [variable] =", api.ErrShort, 1, 15)
	refuses(t, "& [variable] =*", api.ErrShort, 1, 16)
	refuses(t, "& [variable] = =", api.ErrForm, 1, 16)
	refuses(t, "& [variable] =* b-a", api.ErrArg, 1, 18)
}

// P10.3: what stands where a text must be.
func TestTexts(t *testing.T) {
	for _, ahead := range []string{"& a <", "& a = b <<", "& a <*", "& a < b /", "& a <* b -", "& a <* b-c-", "& [variable] =", "& [variable] =*", "& [variable] =* b -"} {
		col := len(ahead) + 2
		refuses(t, ahead, api.ErrShort, 1, col-1)
		refuses(t, ahead+" # x\n", api.ErrShort, 2, 1)
		for _, s := range []string{"&", "<", "=", "<*", "=*", "/", "-", "[first]", "[shifted on]", "[]", "[before 1]"} {
			refuses(t, ahead+" "+s, api.ErrForm, 1, col)
			refuses(t, ahead+" "+s+" a", api.ErrForm, 1, col)
			refuses(t, ahead+"\n"+s, api.ErrForm, 2, 1)
		}
	}
}

// P10.3: `/` and what stands behind it.
func TestExtends(t *testing.T) {
	has(t, "& a < b/c", nil, reset("a"), extended(1, "b", "c"))
	has(t, "& a < b\n/\n'x y' < c", nil, reset("a"), extended(1, "b", "x y"), at(3, relation(1, "c")))
	refuses(t, "& a < b / ''", api.ErrArg, 1, 11)
	refuses(t, "& a < b /\n'' < c", api.ErrArg, 2, 1)
	refuses(t, "& a < b / c / d", api.ErrForm, 1, 13)
	refuses(t, "& a < b / / c", api.ErrForm, 1, 11)
	refuses(t, "& a < b / c d", api.ErrForm, 1, 13)
	refuses(t, "& a < b /", api.ErrShort, 1, 10)
	refuses(t, "& a / b", api.ErrForm, 1, 5)
	refuses(t, "& [first] / b", api.ErrForm, 1, 11)
	refuses(t, "& a <* b / ''", api.ErrForm, 1, 10)
	refuses(t, "& a <* b /", api.ErrForm, 1, 10)
	refuses(t, "& a <* b-c / d", api.ErrForm, 1, 12)
	refuses(t, "& a <* '' / d", api.ErrForm, 1, 11)
	refuses(t, "& a < b - c", api.ErrForm, 1, 9)
	refuses(t, "& a < b / c - d", api.ErrForm, 1, 13)
}

// P10.3: rows of characters.
func TestRows(t *testing.T) {
	for s, want := range map[string][]string{
		"''": nil, "b": {"b"}, "bcd": {"b", "c", "d"}, "bb": {"b", "b"}, `'é '\xff\xf0\x9f`: {"é", " ", "\xff", "\xf0", "\x9f"}, `\xe2\x82\xac`: {"€"}, "\ufffd": {"\ufffd"},
		"b-b": {"b"}, "b-c": {"b", "c"}, "b-d": {"b", "c", "d"}, "ab-dz": {"a", "b", "c", "d", "z"}, "b-bb": {"b", "b"}, "bb-b": {"b", "b"}, "b-b-b": {"b"}, "b-b-c-c": {"b", "c"}, "b-d-f": {"b", "c", "d", "e", "f"}, "b-dx-zb - b": {"b", "c", "d", "x", "y", "z", "b"},
		`\xffb-c\xff`: {"\xff", "b", "c", "\xff"}, `\xffb-b\xff`: {"\xff", "b", "\xff"}, "\u007e-\u0081": {"~", "\x7f", "\u0080", "\u0081"}, "\ud7fe-\ue001": {"\ud7fe", "\ud7ff", "\ue000", "\ue001"}, "\ud7ff-\ue000": {"\ud7ff", "\ue000"}, "\ud7ff-\ud7ff-\ue000": {"\ud7ff", "\ue000"},
		"\ufffc-\ufffe": {"\ufffc", "\ufffd", "\ufffe"}, "\ufffd-\ufffe": {"\ufffd", "\ufffe"}, "\uffff-\U00010001": {"\uffff", "\U00010000", "\U00010001"}, "\U0010fffe-\U0010ffff": {"\U0010fffe", "\U0010ffff"}, "\U0010ffff-\U0010ffff": {"\U0010ffff"}, `\u{0}-\u{2}`: {"\x00", "\x01", "\x02"}, `\--\/`: {"-", ".", "/"}, "\ufffd-\ufffd": {"\ufffd"},
	} {
		has(t, "& a <* "+s, nil, behind(each(1, want...)...)...)
		has(t, "& [variable] =* "+s+" & a <<<* "+s+" = a", want, behind(append(each(3, want...), relation(4, "a"))...)...)
	}
	has(t, "& a\n<*\nb\n-\nd\n< e", nil, reset("a"), at(2, relation(1, "b")), at(2, relation(1, "c")), at(2, relation(1, "d")), at(6, relation(1, "e")))
	const n = 1 + 0xe7ff - 0xd700 + 1 - 0x800
	if r := parsed(t, "& a <* \ud700-\ue7ff"); len(r.Items) != n || r.Items[n-1].Text != "\ue7ff" {
		t.Errorf("%d items", len(r.Items))
	}
}

// P10.3: rows that have no place for their characters.
func TestWrongRows(t *testing.T) {
	for s, col := range map[string]int{
		"c-b": 2, "é-e": 2, "\ue000-\ud7ff": 2, "''-a": 3, "a-''": 2, "''-''": 3, "b-''-c": 2, "b-c-''": 4, "b-c-b": 4, "c-b-c": 2, `\xff-b`: 5, `b-\xff`: 2, `\x80-\xff`: 5, `b\xff-c`: 6, `b-\xffc`: 2, "bd-cz": 3, "\ufffd-\ufffc": 2, `\xef\xbf-b`: 9, "\ufffe-\\xff": 2, "\ufffc-\\xff": 2, `\xff-\xff`: 5,
	} {
		refuses(t, "& a <* "+s, api.ErrArg, 1, 7+col)
		refuses(t, "& a < b / c =*\n"+s+" < / x", api.ErrArg, 2, col)
	}
	// What is wrong with the text ahead of `-` is so whatever stands behind that.
	for _, s := range []string{"''-", `\xff-`, `b\x80-`} {
		for _, more := range []string{"", " <", " [first]", " &", "-", "/"} {
			refuses(t, "& a <* "+s+more, api.ErrArg, 1, 7+len(s))
		}
	}
	refuses(t, "& a <* b--c", api.ErrForm, 1, 10)
	refuses(t, "& a <* -b", api.ErrForm, 1, 8)
	refuses(t, "& a <* b c", api.ErrForm, 1, 10)
	refuses(t, "& a <* b-c d", api.ErrForm, 1, 12)
	refuses(t, "& a <* b-c-", api.ErrShort, 1, 12)
}

// P10.1, P10.3: of two things that are wrong the first one alone is told.
func TestTwoWrongs(t *testing.T) {
	wrong := []string{"a", "/", "-", "[x]", "[strength 9]", "&", "& <", "& [x]", "& [before 1] &", "& a < &", "& a < b / ''", "& a <* c-b", "& a <* ''-", "& a <* b-", "& [variable] < a", "& [variable] = a / b", "[shifted on] [shifted off]"}
	for _, a := range wrong {
		_, fault := told(a)
		if fault.No == api.OK {
			t.Fatalf("%q is right", a)
		}
		for _, b := range wrong {
			if fault.No == api.ErrShort { // What stands behind is no end.
				check(t, a+"\n"+b)
				continue
			}
			refuses(t, a+"\n"+b, fault.No, fault.Line, fault.At)
			refuses(t, "& z\n"+a+"\n"+b, fault.No, fault.Line+1, fault.At)
		}
	}
}

// P10.1, P10.2, P10.3: all short files of tokens of all kinds, behind some that are right.
func TestAllShort(t *testing.T) {
	all := pieces()
	for _, ahead := range []string{"", "& a\n", "& [variable] ", "& a < b ", "& a <*", "& [variable] =*", "[strength 4] &"} {
		check(t, ahead)
		for _, a := range all {
			check(t, ahead+a)
			for _, b := range all {
				check(t, ahead+a+"\n"+b)
				for _, c := range all {
					check(t, ahead+a+" "+b+" "+c)
				}
			}
		}
	}
	few := []string{"-", "/", "''", "b", "ad", "\\xff", "<", "&", "=*", "[first]"}
	for _, a := range few {
		for _, b := range few {
			for _, c := range few {
				for _, d := range few {
					check(t, "& a <* "+a+" "+b+" "+c+" "+d)
					check(t, "& [variable] =* e "+a+" "+b+" "+c+" "+d)
				}
			}
		}
	}
}

// P10.1, P10.2, P10.3: files by chance, right ones, and such that are spoilt at each byte.
func TestByChance(t *testing.T) {
	c := chance(10)
	for range 20000 {
		check(t, c.file(20, pieces()))
	}
	for range 3000 {
		s := c.right(20, true)
		parsed(t, s)
		check(t, s)
	}
	spoil := []string{"", "&", "<", "*", "/", "-", "=", "[", "]", "'", "\\", "a", " ", "\n", "\xff", "[first]", "''"}
	for range 40 {
		s := c.right(12, true)
		for i := range len(s) {
			check(t, s[:i])
			for _, x := range spoil {
				check(t, s[:i]+x+s[i+1:])
				check(t, s[:i]+x+s[i:])
			}
		}
	}
}

// R4, R5: what is answered is changed by whoever holds it, and files that are read at one time hang on nothing but themselves.
func TestAnswers(t *testing.T) {
	const s = "[strength 2] & a <* b-e < f / g & [variable] =* ' -' & [last] = h"
	want := parsed(t, s)
	check(t, s)
	again := parsed(t, s)
	items, variable := again.Items[:cap(again.Items)], again.Variable[:cap(again.Variable)]
	for i := range items {
		items[i] = api.Rule{Kind: 9, Text: "x"}
	}
	for i := range variable {
		variable[i] = "x"
	}
	second, _ := told(s)
	if !alike(want, second) || !alike(want, parsed(t, s)) {
		t.Errorf("an answer hangs on another one")
	}
	var all sync.WaitGroup
	for i := range 8 {
		all.Go(func() {
			for range 200 {
				if r, e := rules.Parse(s); e != nil || !alike(r, want) {
					t.Errorf("%d: %+v, %v", i, r, e)
				}
				if r, e := rules.Parse(s + strings.Repeat("\n", 1+i) + " <"); refused(r, e, api.Fault{No: api.ErrShort, Line: 2 + i, At: 3}) != "" {
					t.Errorf("%d: %+v, %#v", i, r, e)
				}
			}
		})
	}
	all.Wait()
}

// R2: of each error the name is that of its number.
func TestNames(t *testing.T) {
	_, e := rules.Parse("& a <\n")
	if got := fmt.Sprint(e); got != api.ErrShort.Error() {
		t.Errorf("%q", got)
	}
}
