package props_test

import (
	"maps"
	"regexp"
	"slices"
	"strconv"
	"strings"

	"glossary/api"
)

// A second way to the same things, from the document's words alone: words are told by patterns, what is said of a point by going through all lines, Hangul by counting its syllables out. The tests hold the package against it.

var (
	wordAt  = regexp.MustCompile(`[^ \t]+`)
	pointAt = regexp.MustCompile(`^[0-9A-Fa-f]{4,6}$`)
	rowAt   = regexp.MustCompile(`^([0-9A-Fa-f]{4,6})(?:\.\.([0-9A-Fa-f]{4,6}))?$`)
	classAt = regexp.MustCompile(`^(?:0|[1-9][0-9]*)$`)
	names   = []string{"other", "letter", "digit", "mark", "space", "control", "joiner", "middle"}
)

// said is what a line says.
type said struct {
	word   string
	lo, hi rune // the points of which it speaks
	value  int
	list   []rune
	line   int
}

// facts are what the lines of a file say, in order.
type facts []said

func isChar(n rune) bool { return n >= 0 && n <= 0x10ffff && (n < 0xd800 || n > 0xdfff) }

// hexOf is what digits tell, which are written as a point's are.
func hexOf(digits string) rune {
	n, _ := strconv.ParseInt(digits, 16, 64)
	return rune(n)
}

// told are the facts of a file; or what is wrong with it.
func told(s string) (facts, api.Fault) {
	lines := strings.Split(s, "\n")
	if lines[len(lines)-1] == "" {
		lines = lines[:len(lines)-1]
	}
	if len(s) > 1048576 || len(lines) > 65536 {
		return nil, api.Fault{No: api.ErrMany}
	}
	var f facts
	for i, line := range lines {
		line = strings.TrimSuffix(line, "\r")
		if at := strings.IndexByte(line, '#'); at >= 0 {
			line = line[:at]
		}
		words := wordAt.FindAllString(line, -1)
		if len(words) == 0 {
			continue
		}
		x, no := f.lineOf(words)
		if no != api.OK {
			return nil, api.Fault{No: no, Line: i + 1}
		}
		x.line = i + 1
		f = append(f, x)
	}
	return f, f.wholeFault()
}

// lineOf is what a line says, when these are said ahead; or what is wrong with it.
func (f facts) lineOf(words []string) (said, api.Errno) {
	x := said{word: words[0]}
	ofRow, ofPoint := x.word == "class" || x.word == "kind", x.word == "fold" || x.word == "decomp"
	switch {
	case !ofRow && !ofPoint:
		return x, api.ErrWord
	case len(words) < 3:
		return x, api.ErrShort
	case ofRow && len(words) > 3:
		return x, api.ErrLong
	case ofPoint && len(words) > 10:
		return x, api.ErrMany
	}
	if ofRow {
		return rowLine(x, words)
	}
	for _, word := range words[1:] {
		if !pointAt.MatchString(word) {
			return x, api.ErrNumber
		}
		if !isChar(hexOf(word)) {
			return x, api.ErrPoint
		}
		x.list = append(x.list, hexOf(word))
	}
	x.lo, x.hi, x.list = x.list[0], x.list[0], x.list[1:]
	for _, y := range f {
		if y.word == x.word && y.lo == x.lo {
			return x, api.ErrTwice
		}
	}
	if x.word == "decomp" && isHangul(x.lo) {
		return x, api.ErrArg
	}
	return x, api.OK
}

// rowLine is what lineOf is, of a line that speaks of a row.
func rowLine(x said, words []string) (said, api.Errno) {
	row := rowAt.FindStringSubmatch(words[1])
	if row == nil {
		return x, api.ErrNumber
	}
	x.lo, x.hi = hexOf(row[1]), hexOf(row[1])
	if row[2] != "" {
		x.hi = hexOf(row[2])
	}
	switch {
	case !isChar(x.lo) || !isChar(x.hi):
		return x, api.ErrPoint
	case x.hi < x.lo:
		return x, api.ErrArg
	}
	if x.word == "kind" {
		if x.value = slices.Index(names, words[2]); x.value < 0 {
			return x, api.ErrWord
		}
		return x, api.OK
	}
	if !classAt.MatchString(words[2]) {
		return x, api.ErrNumber
	}
	if len(words[2]) > 3 || len(words[2]) == 3 && words[2] > "254" {
		return x, api.ErrArg
	}
	for _, digit := range words[2] {
		x.value = 10*x.value + int(digit-'0')
	}
	return x, api.OK
}

// wholeFault is the first full decomposition that is wrong.
func (f facts) wholeFault() api.Fault {
	lengths := f.lengths()
	for _, r := range slices.Sorted(maps.Keys(lengths)) {
		line := f[slices.IndexFunc(f, func(x said) bool { return x.word == "decomp" && x.lo == r })].line
		if f.endless(r) {
			return api.Fault{No: api.ErrLoop, Line: line}
		}
		if lengths[r] > 8 {
			return api.Fault{No: api.ErrMany, Line: line}
		}
	}
	return api.Fault{}
}

// endless tells whether one may go on from a point to one of its decomposition for more steps than there are lines.
func (f facts) endless(r rune) bool {
	at := map[rune]bool{r: true}
	for range len(f) + 3 {
		next := map[rune]bool{}
		for x := range at {
			for _, y := range f.decomp(x) {
				next[y] = true
			}
		}
		at = next
	}
	return len(at) > 0
}

// lengths are those of all full decompositions that end; 9, where it is more than 8.
func (f facts) lengths() map[rune]int {
	lengths := map[rune]int{}
	for range len(f) + 3 { // The longest way from one to another has fewer steps.
		for _, x := range f {
			if x.word != "decomp" {
				continue
			}
			sum := 0
			for _, r := range x.list {
				sum += max(1, lengths[r], len(f.decomp(r)))
			}
			lengths[x.lo] = min(9, sum)
		}
	}
	return lengths
}

// valueOf is what the last line of a word says of a point; none, if no line does.
func (f facts) valueOf(word string, r rune, none int) int {
	for _, x := range slices.Backward(f) {
		if x.word == word && x.lo <= r && r <= x.hi {
			return x.value
		}
	}
	return none
}

func (f facts) class(r rune) int {
	if isHangul(r) || !isChar(r) {
		return 0
	}
	return f.valueOf("class", r, 0)
}

func (f facts) kind(r rune) int {
	switch {
	case !isChar(r):
		return 0
	case hangul[r] != nil:
		return f.valueOf("kind", r, 1)
	}
	return f.valueOf("kind", r, 0)
}

// listOf is what the line of a word says of a point.
func (f facts) listOf(word string, r rune) []rune {
	for _, x := range f {
		if x.word == word && x.lo == r {
			return x.list
		}
	}
	return nil
}

func (f facts) decomp(r rune) []rune {
	if l := hangul[r]; l != nil {
		return l
	}
	return f.listOf("decomp", r)
}

func (f facts) fold(r rune) []rune {
	if l := f.listOf("fold", r); l != nil {
		return l
	}
	return []rune{r}
}

func (f facts) compose(a, b rune) (rune, bool) {
	if r, ok := hangulPairs[[2]rune{a, b}]; ok {
		return r, true
	}
	least, ok := rune(0), false
	for _, x := range f {
		if x.word == "decomp" && slices.Equal(x.list, []rune{a, b}) && f.class(a) == 0 && (!ok || x.lo < least) {
			least, ok = x.lo, true
		}
	}
	return least, ok
}

// hangul are all syllables, each with its parts; hangulPairs those that two points make.
var hangul, hangulPairs = countedOut()

func countedOut() (map[rune][]rune, map[[2]rune]rune) {
	syllables, pairs := map[rune][]rune{}, map[[2]rune]rune{}
	r := rune(0xac00)
	for lead := rune(0x1100); lead <= 0x1112; lead++ {
		for vowel := rune(0x1161); vowel <= 0x1175; vowel++ {
			open := r
			syllables[r], pairs[[2]rune{lead, vowel}] = []rune{lead, vowel}, r
			r++
			for tail := rune(0x11a8); tail <= 0x11c2; tail++ {
				syllables[r], pairs[[2]rune{open, tail}] = []rune{lead, vowel, tail}, r
				r++
			}
		}
	}
	return syllables, pairs
}

func isHangul(r rune) bool {
	return r >= 0xac00 && r <= 0xd7a3 || r >= 0x1100 && r <= 0x1112 || r >= 0x1161 && r <= 0x1175 || r >= 0x11a8 && r <= 0x11c2
}

// chance is a row of numbers that looks like chance and is always the same.
type chance uint64

// below is a number from 0 on, and less than n.
func (c *chance) below(n int) int {
	*c = *c*6364136223846793005 + 1442695040888963407
	return int(*c>>33) % n
}

// rows hands out all texts of up to n of these letters.
func rows(letters string, n int, do func(string)) {
	row := make([]byte, 0, n)
	var fill func()
	fill = func() {
		do(string(row))
		if len(row) == n {
			return
		}
		for i := range len(letters) {
			row = append(row, letters[i])
			fill()
			row = row[:len(row)-1]
		}
	}
	fill()
}
