package rules_test

import (
	"slices"
	"strings"
	"testing"

	"glossary/api"
	"glossary/rules"
)

// lined are items, each with the line in which it stands in a form.
func lined(r api.Rules, form string) []api.Rule {
	line := strings.Count(form, "\n")
	l := slices.Clone(r.Items)
	for i := len(l) - 1; i >= 0; i-- {
		l[i].Line = line
		if l[i].Kind == api.RReset {
			line--
		}
	}
	return l
}

// comesBack checks that rules which have a form come back from it, and it from them.
func comesBack(t *testing.T, r api.Rules) {
	t.Helper()
	form, e := rules.Print(r)
	if e != nil {
		t.Fatalf("Print(%.300v): %v", r, e)
	}
	back, e := rules.Parse(form)
	r.Items = lined(r, form)
	if e != nil || !alike(back, r) {
		t.Fatalf("Parse(%.300q): %.300v, %v; want %.300v", form, back, e, r)
	}
	if again, e := rules.Print(back); e != nil || again != form {
		t.Fatalf("Print(%.300v): %.300q, %v; want %.300q", back, again, e, form)
	}
}

// P10.5: rules by chance, of texts of all kinds, are printed and read.
func TestThereAndBack(t *testing.T) {
	c := chance(5)
	for range 5000 {
		r := usual()
		r.Options = api.Options{Strength: 1 + c.below(5), Shifted: c.below(2) > 0, Back: c.below(2) > 0}
		for range c.below(4) {
			r.Variable = append(r.Variable, someText(&c))
		}
		for range c.below(12) {
			switch {
			case len(r.Items) == 0 || c.below(3) == 0:
				r.Items = append(r.Items, []api.Rule{reset(someText(&c)), before(someText(&c)), anchored(1 + c.below(3))}[c.below(3)])
			default:
				r.Items = append(r.Items, extended(1+c.below(4), someText(&c), c.of("", someText(&c))))
			}
		}
		checkPrint(t, r)
		comesBack(t, r)
	}
	for b := range 256 {
		s := string([]byte{byte(b)})
		comesBack(t, api.Rules{Options: api.Options{Strength: 3}, Variable: []string{s, s + s}, Items: []api.Rule{before(s), extended(1, s+"a", "a"+s), relation(4, "\xe2"+s)}})
	}
}

// someText is a text of a few bytes of all kinds.
func someText(c *chance) string {
	s := ""
	for range c.below(5) {
		s += c.of("a", "b", "é", "\U0001f468", "\xff", "\xe2\x82", "\xac", "\x80", "\x00", "\n", "\r", " ", "\x7f", "&", "<", "=", "/", "-", "[", "]", "#", "*", "'", "\\", "u", "x", "{41}", "[first]", "''", "\ufffd")
	}
	return s
}

// P10.6: what files come to is printed, and read and printed to the same form.
func TestReadAndPrinted(t *testing.T) {
	c := chance(6)
	for range 5000 {
		comesBack(t, parsed(t, c.right(20, true)))
	}
	for range 20000 {
		if r, e := rules.Parse(c.file(12, pieces())); e == nil {
			comesBack(t, r)
		}
	}
	for _, s := range full() {
		comesBack(t, parsed(t, s))
	}
}

// P10.6: the one thing for which what was read isn't printed: the form is too long.
func TestReadAndNotPrinted(t *testing.T) {
	blanks := strings.Repeat(" ", maxSource/6)
	comesBack(t, parsed(t, "& '"+blanks+"'"))
	notPrinted(t, parsed(t, "& ' "+blanks+"'"), api.ErrMany)
	long := strings.Repeat("a", maxSource-3)
	comesBack(t, parsed(t, "&"+long))
	notPrinted(t, parsed(t, "&a"+long), api.ErrMany) // The form has a blank and a line end besides.
}

// P10.7: two files, one behind the other with a byte 0A between.
func TestTwoFiles(t *testing.T) {
	c := chance(7)
	first := []string{"", "\n", "#", "# &", "[strength 5]", "& a", "& [variable]", "& [variable] = x", "& a < b", "& a < b / c\n", "& a <* b-d", "& a <* ''", "\n\n& [before 1]\na # x", "& a < b [shifted on]"}
	second := []string{"& a", "&\n[variable]\n=\nx", "\n# x\n &[first]< b", "& a <* b-d", "& ''"}
	for range 60 {
		first = append(first, c.right(12, true))
		second = append(second, c.right(12, false))
	}
	for _, a := range first {
		for _, b := range second {
			want, more := parsed(t, a), parsed(t, b)
			if want.Variable = append(want.Variable, more.Variable...); more.Options != (api.Options{Strength: 3}) {
				t.Fatalf("%q has options", b)
			}
			for _, x := range more.Items {
				want.Items = append(want.Items, at(x.Line+1+strings.Count(a, "\n"), x))
			}
			if r := parsed(t, a+"\n"+b); !alike(r, want) {
				t.Fatalf("%q, and %q behind it: %+v; want %+v", a, b, r, want)
			}
			check(t, a+"\n"+b)
		}
	}
}

// P10.7: two files that are right, but not as one, by a limit.
func TestTwoFilesTooMany(t *testing.T) {
	half := "& a" + strings.Repeat(" < b", maxRules/2-1)
	parsed(t, half+"\n"+half)
	refuses(t, half+"\n"+half+" < b", api.ErrMany, 2, len(half)+2)
	refuses(t, half+"\n& [variable]"+strings.Repeat("=b", maxRules/2+1), api.ErrMany, 2, 13+maxRules)
	refuses(t, strings.Repeat("\n", 65536)+"\n& a", api.ErrMany, 65537, 1)
}
