package rules_test

import (
	"strings"
	"testing"

	"glossary/api"
	"glossary/rules"
)

// full are files, each of one line, that have as many items and texts of Variable as rules may have. A relation behind them is one of Items, and nothing behind them belongs to what is there.
func full() []string {
	const row = "[strength 4] "
	return []string{
		strings.Repeat("& a ", maxRules), strings.Repeat("&[first] ", maxRules), strings.Repeat("& [before 1] a ", maxRules), "& a " + strings.Repeat("<<< b / c ", maxRules-1), "& a " + strings.Repeat("=*bc<''", (maxRules-1)/3) + " / d ", "& a " + row + strings.Repeat("<b", maxRules-1) + "/c ",
		"& a <* " + strings.Repeat("b", maxRules-1) + row, `& a <* \u{100}-\u{10fe} ` + row, `& a <* \u{d700}-\u{eefe} ` + row,
		"& [variable] " + strings.Repeat("= b ", maxRules-1) + "& a ", "& [variable] =* " + strings.Repeat("b", maxRules-1) + "& [last] ", "& a " + strings.Repeat("< b ", 2000) + "& [variable] " + strings.Repeat("= b ", maxRules-2002) + "& c ",
	}
}

// P10.3: as many as may be; and which one is too many, of all that may stand behind them.
func TestMaxRules(t *testing.T) {
	for _, ahead := range full() {
		for _, more := range []string{"", "[shifted on]", "& [variable]", "<* ''", "=* '' <* ''", "# < b", "& [variable] =* '' [backwards off]"} {
			r := parsed(t, ahead+more)
			if n := len(r.Items) + len(r.Variable); n != maxRules {
				t.Errorf("Parse(%.40q): %d items and texts of Variable", ahead, n)
			}
			check(t, ahead+more)
		}
		for more, at := range map[string]int{
			"& a": 0, "& ''": 0, "& [before 1] a": 0, "& [ignored]": 0, "< b": 0, "= ''": 0, "< b / c": 0, "<* b": 0, "<<* bc-e": 0, "<* b-": 0, "<* b-a": 0, "<* b-''": 0, `<* \xff-`: 0, "<* bc-b": 0, "<* b / c": 0, "<* b /": 0, "<* b c": 0, "< b / c / d": 0, "< b / c d": 0, "< b - c": 0, "< b c": 0, "< b & <": 0, "& a b": 0, "& a & <": 0, "& [first] [x]": 0, "& a a": 0, "< b [x]": 0, "<* b [strength 9]": 0, "& a & a & a": 0, "< b < b / ''": 0, "<* b <": 0,
			"[shifted on] < b": 13, "<* '' < b": 6, "& [variable] = b": 13, "& [variable] =* b-a": 13, "& [variable] =* b / c": 13, "& [variable] = b c": 13, "& [variable] = b < c": 13, "& [variable] & a": 13,
		} {
			refuses(t, ahead+more, api.ErrMany, 1, len(ahead)+at+1)
		}
	}
}

// P10.3: what is wrong with a token of the item that is one too many, and with what is none.
func TestMaxRulesAndWrong(t *testing.T) {
	for _, ahead := range full() {
		for more, want := range map[string]api.Fault{
			"&": {No: api.ErrShort, At: 1}, "& <": {No: api.ErrForm, At: 2}, "& [x]": {No: api.ErrOption, At: 2}, "& [before 1]": {No: api.ErrShort, At: 12}, "& [before 1] &": {No: api.ErrForm, At: 13}, "<": {No: api.ErrShort, At: 1}, "< =": {No: api.ErrForm, At: 2}, "< b /": {No: api.ErrShort, At: 5}, "< b / /": {No: api.ErrForm, At: 6}, "< b / ''": {No: api.ErrArg, At: 6},
			"<*": {No: api.ErrShort, At: 2}, "<* <": {No: api.ErrForm, At: 3}, "<* ''-": {No: api.ErrArg, At: 5}, "<* '' / a": {No: api.ErrForm, At: 6}, "<* ''-b": {No: api.ErrArg, At: 5}, "a": {No: api.ErrForm}, "- b": {No: api.ErrForm}, "[x]": {No: api.ErrOption}, "[strength 9]": {No: api.ErrOption}, "& [variable] < b": {No: api.ErrLevel, At: 13}, "& [variable] = b / c": {No: api.ErrForm, At: 17}, "& [variable] = b /": {No: api.ErrForm, At: 17}, "& [variable] =": {No: api.ErrShort, At: 14}, "& [variable] = [x]": {No: api.ErrForm, At: 15}, "*": {No: api.ErrForm}, "& a '": {No: api.ErrQuote, At: 4},
		} {
			refuses(t, ahead+more, want.No, 1, len(ahead)+want.At+1)
		}
	}
}

// P10.3: rows of characters that reach the limit, and that reach over it, by a unit of a text or by a character between.
func TestMaxRulesInRows(t *testing.T) {
	for _, s := range []string{"b-d", `b-c\xff`, "bcc", `\xffbc`, `b\x80\x81`, "\U0010fffd-\U0010ffff", "\ud7ff-\ue001", "b <* '' <* c <* d-d-d"} {
		file := "& a " + strings.Repeat("< b ", maxRules-4) + "<* " + s
		parsed(t, file)
		check(t, file)
		refuses(t, file+" < b", api.ErrMany, 1, len([]rune(file))+2)
	}
	// Two items, and all but one of the others.
	const sign = len("& a < b ")
	ahead := "& a < b <* " + strings.Repeat("b", maxRules-3)
	for _, more := range []string{"c", "-c", "-b", "-bc", "-b-c", "c-c", "c-c-c", "c <* ''", "-c <* '' & [variable]"} {
		parsed(t, ahead+more)
		check(t, ahead+more)
	}
	for _, more := range []string{"cc", "-cc", "-d", "-d-a", "-bbb", "c-cd", "c-d", "c-d-a", "cd-", "cd-a", "cd-''", "cd /", "cd <", "-bcd-", "-d /", "-d [x]"} {
		refuses(t, ahead+more, api.ErrMany, 1, sign+1)
	}
	for _, x := range []struct {
		more string
		no   api.Errno
		at   int // the byte of more
	}{
		{"-c-", api.ErrShort, 3}, {"c-", api.ErrShort, 2}, {"-", api.ErrShort, 1}, {"c-<", api.ErrForm, 2}, {"c-b", api.ErrArg, 1}, {"c-''", api.ErrArg, 1}, {`c-\xff`, api.ErrArg, 1}, {`\xff-c`, api.ErrArg, 4}, {`\xff-`, api.ErrArg, 4}, {"-c-a", api.ErrArg, 2}, {"c-c-a", api.ErrArg, 3}, {"-a", api.ErrArg, 0}, {"c / d", api.ErrForm, 2}, {"c-c /", api.ErrForm, 4}, {"-c d", api.ErrForm, 3}, {"c <", api.ErrShort, 3}, {"c [x]", api.ErrOption, 2},
	} {
		refuses(t, ahead+x.more, x.no, 1, len(ahead)+x.at+1)
	}
	refuses(t, `& a <* \u{0}-\u{10ffff}`, api.ErrMany, 1, 5)
	refuses(t, `& a <* \u{0}-\u{10ffff}-\u{0}`, api.ErrMany, 1, 5)
	refuses(t, `& a < b`+"\n"+`=* \u{0}-\u{10ffff} / '' [x] `, api.ErrMany, 2, 1)
	refuses(t, `& [variable] =* \u{0}-\u{fff}-\u{1000} < a`, api.ErrMany, 1, 14)
	has(t, `& [variable] =* \u{0}-\u{fff}`, parsed(t, `& [variable] =* \u{0}-\u{f00}-\u{fff}`).Variable)
}

// R1, P10.1: files that are as long as they may be.
func TestLong(t *testing.T) {
	for _, unit := range []string{"& ", "a", "< ", "=*", "''", "/ ", "- ", "[]", "[shifted on]", "& a", "&''", "<b", "\n", "#", "\xff", "&[variable]", "& a < b / c "} {
		check(t, strings.Repeat(unit, maxSource/len(unit)))
		check(t, "& a <* "+strings.Repeat(unit, (maxSource-7)/len(unit)))
	}
	long := strings.Repeat("a", maxSource-2)
	has(t, "& "+long, nil, reset(long))
	has(t, strings.Repeat("&[variable]", maxSource/11), nil)
	refuses(t, "& a <* "+long[5:], api.ErrMany, 1, 5)
	if r, e := rules.Parse("&a<*b" + strings.Repeat("-b", maxSource/2-3)); e != nil || len(r.Items) != 2 {
		t.Errorf("%d items, %v", len(r.Items), e)
	}
}
