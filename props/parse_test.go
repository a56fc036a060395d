package props_test

import (
	"strconv"
	"strings"
	"testing"

	"glossary/api"
	"glossary/props"
)

// hex is a number as a file tells a point.
func hex(r rune) string {
	s := strings.ToUpper(strconv.FormatInt(int64(r), 16))
	return strings.Repeat("0", max(0, 4-len(s))) + s
}

func decimal(n int) string { return strconv.Itoa(n) }

// check holds what is told of a file against the second way.
func check(t *testing.T, s string) {
	t.Helper()
	p, e := props.Parse(s)
	f, fault := told(s)
	if fault.No != api.OK {
		if wrong := refused(p, e, fault); wrong != "" {
			t.Fatalf("Parse(%q): %s: %v %#v; want %#v", s, wrong, e, e, fault)
		}
		return
	}
	if p == nil || e != nil {
		t.Fatalf("Parse(%q): %v", s, e)
	}
	named := f.named()
	for _, r := range named {
		ask(t, p, f, r, named)
	}
}

// refuses checks that a file is refused at a line.
func refuses(t *testing.T, s string, no api.Errno, line int) {
	t.Helper()
	p, e := props.Parse(s)
	if wrong := refused(p, e, api.Fault{No: no, Line: line}); wrong != "" {
		t.Errorf("Parse(%.200q): %s: %v %#v; want %v at %d", s, wrong, e, e, no, line)
	}
}

// P6.1, P6.2: lines that are wrong alone: the chapter's, and others of each kind; and wherever they stand.
func TestWrongLines(t *testing.T) {
	for no, lines := range map[api.Errno][]string{
		api.ErrWord: {
			"clas 0041 1", "Class 0041 1", "classs 0041 1", "class0041 1 1", "0041 class 1", "kinds 0041 letter", "decompose 0041 0042", "é 0041 1", "\xff 0041 1", "class\v0041 1", "\u00a0class 0041 1", "\x00", "x", "class, 0041 1", "\r\r", "\r class 0041 1",
			"kind 0041 Letter", "kind 0041 letters", "kind 0041 1", "kind 0041 lette", "kind 0041 l", "kind 0041 MARK", "kind 0041 \xff", "kind 0041..0041 none",
		},
		api.ErrShort: {"class", "kind", "fold", "decomp", "class 0041", "kind 0041", "fold 0041", "decomp 0041", "class x", "decomp AC00", "class # 0041 1", "class 0041 # 1", "fold 0041 #0042", "class 0041\t\t "},
		api.ErrLong:  {"class 0041 1 2", "kind 0041 letter mark", "class 0041 0042 0043", "kind x y z", "class 0041 .. 0042 1", "class 0041.. 0042 1", "class 1 2 3 4 5 6 7 8 9 10 11 12"},
		api.ErrMany: {
			"fold 0041 0061 0062 0063 0064 0065 0066 0067 0068 0069", "decomp 0041 0061 0062 0063 0064 0065 0066 0067 0068 0069", "fold 1 2 3 4 5 6 7 8 9 10", "decomp AC00 0061 0062 0063 0064 0065 0066 0067 0068 0069 006A 006B",
			"decomp 0041 AC01 AC01 AC01", "decomp 0041 AC00 AC00 AC00 AC00 0041 AC00 AC00 AC00 AC00",
		},
		api.ErrNumber: {
			"class 41 1", "class 041 1", "class 0000041 1", "class  1000000041 1", "class 00g1 1", "class 0x41 1", "class +0041 1", "class -0041 1", "class U+0041 1", "class 00_41 1", "class 004\xff 1", "class ００41 1", "class 0041.. 1", "class ..0041 1", "class .. 1", "class 0041.0042 1", "class 0041...0042 1", "class 0041..0042..0043 1", "class 0041..42 1", "class 41..0042 1", "class 0041-0042 1", "class 0041..0000042 1", "class 1 1",
			"kind 41 letter", "kind 0041..x letter", "fold 41 0041", "fold 0041 41", "fold 0041 0042 43", "fold 0041..0042 0043", "fold 0041 0042..0043", "fold 0041 0042 0043 0044 0045 0046 0047 0048 49", "decomp 0041..0041 0042", "decomp 0041 0042.. 0043", "decomp 0041 a", "decomp 1 2",
			"class 0041 007", "class 0041 00", "class 0041 01", "class 0041 +1", "class 0041 -1", "class 0041 1.0", "class 0041 0x1", "class 0041 1e2", "class 0041 x", "class 0041 a", "class 0041 1_0", "class 0041 0255", "class 0041 1\x0b", "class 0041 ２", "class 0041 \xff", "class 0041 -0", "class 0041 1,", "class 0041 1\r\r", "class 0041 1\r# x",
		},
		api.ErrPoint: {
			"class D800 1", "class DFFF 1", "class d9AB 1", "class 110000 1", "class 110080 1", "class 1100FF 1", "class FFFFFF 1", "class 0041..D800 1", "class D800..E000 1", "class D7FF..DFFF 1", "class D800..DFFF 1", "class 0000..110000 1", "class E000..D800 1", "class FFFFFF..0041 1", "class 00D800 1", "class 00dfff 1",
			"kind D800 letter", "kind 0000..110000 letter", "fold D800 0041", "fold 0041 DFFF", "fold 0041 0042 110000", "decomp DC00 0041", "decomp 0041 DC00", "decomp 110080 0041", "decomp 0041 0042 0043 0044 0045 0046 0047 0048 D800",
		},
		api.ErrArg: {
			"class 0042..0041 1", "class E000..D7FF 1", "class 10FFFF..0000 1", "kind 0042..0041 letter", "class 0041 255", "class 0041 256", "class 0041 1000", "class 0041 4294967296", "class 0041 18446744073709551616", "class 0041 99999999999999999999999999999999999999999",
			"decomp AC00 1100", "decomp 1100 0041", "decomp AC01 1100 1161 11A8", "decomp 1112 0041", "decomp 1161 0041", "decomp 1175 0041", "decomp 11A8 0041", "decomp 11C2 0041", "decomp D7A3 0041", "decomp AC00 AC00", "decomp 00ac00 0041",
		},
		api.ErrLoop: {"decomp 0041 0041", "decomp 0041 0042 0041", "decomp 0041 0041 0041 0041 0041 0041 0041 0041 0041", "decomp 0041 AC01 AC01 AC01 0041"},
	} {
		for _, line := range lines {
			refuses(t, line, no, 1)
			refuses(t, line+"\n", no, 1)
			refuses(t, "\n# é\n"+line+"\r\n", no, 3)
			refuses(t, file[:strings.Index(file, "fold")]+line+" # x\nclass 0041 2\n", no, 5)
			check(t, "fold 0050 0051\n"+line)
		}
	}
}

// P6.1: two things are wrong: in one line, and in two lines.
func TestTwoWrongs(t *testing.T) {
	for s, want := range map[string]api.Fault{
		// In one line: the kind of fault that is told first.
		"x": {No: api.ErrWord, Line: 1}, "x y z u v w": {No: api.ErrWord, Line: 1}, "clas 41": {No: api.ErrWord, Line: 1}, "x 1 2 3 4 5 6 7 8 9 10 11": {No: api.ErrWord, Line: 1},
		"class 41": {No: api.ErrShort, Line: 1}, "decomp AC00": {No: api.ErrShort, Line: 1}, "class 41 x y": {No: api.ErrLong, Line: 1}, "kind D800 x y": {No: api.ErrLong, Line: 1}, "fold 1 D800 0061 0061 0061 0061 0061 0061 0061 0061": {No: api.ErrMany, Line: 1}, "decomp AC00 1 1 1 1 1 1 1 1 1": {No: api.ErrMany, Line: 1},
		"class 41 007": {No: api.ErrNumber, Line: 1}, "class D800 007": {No: api.ErrPoint, Line: 1}, "class D800 255": {No: api.ErrPoint, Line: 1}, "class 0042..0041 007": {No: api.ErrArg, Line: 1}, "kind 0042..0041 Letter": {No: api.ErrArg, Line: 1}, "kind D800 Letter": {No: api.ErrPoint, Line: 1}, "kind 41 Letter": {No: api.ErrNumber, Line: 1},
		"class D800..41 1": {No: api.ErrNumber, Line: 1}, "class 41..D800 1": {No: api.ErrNumber, Line: 1}, "class D800..0041 1": {No: api.ErrPoint, Line: 1}, "class E000..DFFF 1": {No: api.ErrPoint, Line: 1}, "class 110001..110000 1": {No: api.ErrPoint, Line: 1}, "class 0041 0999": {No: api.ErrNumber, Line: 1},
		// In one line, from the left.
		"fold D800 41": {No: api.ErrPoint, Line: 1}, "fold 41 D800": {No: api.ErrNumber, Line: 1}, "fold 0041 D800 41": {No: api.ErrPoint, Line: 1}, "fold 0041 41 D800": {No: api.ErrNumber, Line: 1}, "decomp AC00 D800": {No: api.ErrPoint, Line: 1}, "decomp AC00 1": {No: api.ErrNumber, Line: 1}, "decomp AC00 AC00": {No: api.ErrArg, Line: 1},
		// A line ahead says it, and the line itself is wrong.
		"fold 0041 0061\nfold 0041 61": {No: api.ErrNumber, Line: 2}, "fold 0041 0061\nfold 0041 D800": {No: api.ErrPoint, Line: 2}, "fold 0041 0061\nfold 0041": {No: api.ErrShort, Line: 2}, "decomp 0041 0061\ndecomp 0041 1 1 1 1 1 1 1 1 1": {No: api.ErrMany, Line: 2}, "decomp 0041 0041\ndecomp 0041 0041": {No: api.ErrTwice, Line: 2},
		// In two lines: the first line, but what is told of the whole behind all lines.
		"class 0041 255\nclas 0041 1": {No: api.ErrArg, Line: 1}, "clas 0041 1\nclass 0041 255": {No: api.ErrWord, Line: 1}, "class 0041\nx": {No: api.ErrShort, Line: 1}, "\n\nkind 0041 x\n\nclass 41 1": {No: api.ErrWord, Line: 3}, "fold 0041 0061\nfold 0041 0061\nfold 0041 0061": {No: api.ErrTwice, Line: 2},
		"decomp 0041 0041\nclass 0041": {No: api.ErrShort, Line: 2}, "decomp 0041 0041\n\n\nx": {No: api.ErrWord, Line: 4}, "decomp 0041 AC01 AC01 AC01\nkind 0041 x": {No: api.ErrWord, Line: 2}, "decomp 0041 0042\ndecomp 0042 0041\nclass 0041 00": {No: api.ErrNumber, Line: 3}, "x\ndecomp 0041 0041": {No: api.ErrWord, Line: 1},
	} {
		refuses(t, s, want.No, want.Line)
		refuses(t, "#\n\n"+s+"\n", want.No, want.Line+2)
		check(t, s)
	}
}

// P6.1: what is said twice, of the same point, by the same word.
func TestTwice(t *testing.T) {
	for s, line := range map[string]int{
		"fold 0041 0061\nfold 0041 0061": 2, "fold 0041 0061\nfold 0041 0062": 2, "fold 0041 0061\n\n#\nfold 000041 0062\n": 4, "decomp 0041 0061\ndecomp 0041 0061": 2, "fold 00e4 0061\nfold 00E4 0061": 2, "fold 0041 0061\nfold 0042 0061\nfold 0042 0061\nfold 0041 0061": 3,
		"fold AC00 0061\nfold AC00 0062": 2, "decomp 10FFFF 0061\nfold 10FFFF 0062\ndecomp 10FFFF 0063": 3,
	} {
		refuses(t, s, api.ErrTwice, line)
		check(t, s)
	}
	for _, s := range []string{"fold 0041 0061\ndecomp 0041 0061", "decomp 0041 0061\nfold 0041 0061\nfold 0061 0041", "class 0041 1\nclass 0041 1\nkind 0041 mark\nkind 0041 mark", "fold 0041 0061\nfold 0042 0061", "decomp 0041 0061\ndecomp 0042 0061"} {
		parsed(t, s)
		check(t, s)
	}
}

// P6.1: of points that are Hangul no decompositions may be told, of their neighbours they may; folds may of all.
func TestHangulLines(t *testing.T) {
	for _, r := range edges {
		if isHangul(r) {
			refuses(t, "decomp "+hex(r)+" 0041", api.ErrArg, 1)
		} else {
			parsed(t, "decomp "+hex(r)+" 0041")
		}
		parsed(t, "fold "+hex(r)+" 0041\nclass "+hex(r)+" 1\nkind "+hex(r)+" mark\ndecomp 0041 "+hex(r))
		check(t, "decomp "+hex(r)+" 0041 "+hex(r))
		check(t, "decomp 0041 "+hex(r)+" 0042 "+hex(r)+"\nclass "+hex(r)+" 1\nclass 0041 1")
	}
}

// P6.1: files that say nothing, and lines that say nothing.
func TestNothingSaid(t *testing.T) {
	for _, s := range []string{"", "\n", "\r", "\r\n", "#", "# class 0041", "#\n", "##\xff#\r", " ", "\t \t", "\n\n\n", " # \n\t\r\n\r\n", " \r", "#\r\r", "# x\r\r\n", "\t#"} {
		p := parsed(t, s)
		for r := rune(-2); r < 0x110100; r++ {
			kind := api.POther
			if hangul[r] != nil {
				kind = api.PLetter
			}
			if p.Class(r) != 0 || p.Kind(r) != kind {
				t.Fatalf("Parse(%q): Class and Kind of %x: %d, %d", s, r, p.Class(r), p.Kind(r))
			}
		}
		check(t, s+"class 0041 1\n")
		check(t, "class 0041 1\n"+s)
	}
}

// P6.1, P6.6: blanks, remarks and line ends, wherever they may stand, change nothing.
func TestBlanks(t *testing.T) {
	for _, s := range []string{
		"class 0041..0042 9", " class 0041..0042 9", "\tclass\t0041..0042\t9\t", "class  \t  0041..0042 \t 9    ", "class 0041..0042 9\n", "class 0041..0042 9\r\n", "class 0041..0042 9\r", "class 0041..0042 9 \r\n", "class 0041..0042 9#", "class 0041..0042 9# \r\r\n", "class 0041..0042 9 # class 0041 10 # 11\n",
		"\n\nclass 0041..0042 9\n\n", "#\r\nclass 0041..0042 9\n# x", "class 0041..0042 9#\xff", "class 000041..000042 9", "class 0041..00042 9", "class 0041 9\nclass 00042..000042 9\n", strings.Repeat(" ", 9999) + "class" + strings.Repeat("\t", 9999) + "0041..0042 9" + strings.Repeat(" ", 9999),
	} {
		p := parsed(t, s)
		for r, want := range map[rune]int{0x40: 0, 0x41: 9, 0x42: 9, 0x43: 0} {
			if p.Class(r) != want {
				t.Errorf("Parse(%.99q): Class(%x) is %d", s, r, p.Class(r))
			}
		}
	}
	for _, put := range []string{"", " ", "\t", "\t  \t", "  "} {
		for _, end := range []string{"\n", "\r\n", " \n", "\t\r\n", "#\n", " # \xff x\r\n", "\n\n", "\n#\n \n", "\n\r\n"} {
			s := put + strings.ReplaceAll(strings.ReplaceAll(file, " ", " "+put), "\n", end+put)
			for _, s := range []string{s, strings.TrimRight(s, " \t\r\n")} {
				p := parsed(t, s)
				f, _ := told(file)
				for _, r := range f.named() {
					ask(t, p, f, r, f.named())
				}
				check(t, s)
			}
		}
	}
}

// P6.1: digits of both sizes; points of 4 to 6 digits.
func TestDigits(t *testing.T) {
	for _, s := range []string{"fold ABCDEF 0041", "fold abcd 0041", "fold aBcD 0041", "fold 00abCD 0041", "fold 0aBcD 0041", "fold ABCD 0041", "fold 10ffff 00000a", "fold 0000 10FFFF", "fold 00000 0041", "fold 000000 0041", "fold D7FF E000", "fold 0D7FF 0E000", "class 0000..0000 0", "class 000000..10ffff 1", "class 00000..10fFfF 1"} {
		check(t, s)
	}
	for r := rune(0); r < 0x110002; r += 1 + r/257 {
		check(t, "fold "+hex(r)+" "+strings.ToLower(hex(r))+" 0041")
	}
	rows("0DFfg", 5, func(s string) { check(t, "fold 0041 "+s) })
	rows("01D.", 5, func(s string) { check(t, "class 004"+s+" 1") })
	rows("0.1", 6, func(s string) { check(t, "class "+s+"0041 1") })
	rows("0259x", 4, func(s string) { check(t, "class 0041 "+s) })
	for n := range 1100 {
		check(t, "class 0041 "+decimal(n))
		check(t, "class 0041 0"+decimal(n))
	}
}

// P6.1: each byte, at each place of which something hangs.
func TestEachByte(t *testing.T) {
	for b := range 256 {
		s := string([]byte{byte(b)})
		for _, line := range []string{s, "class" + s + "0041 1", "class 0041" + s + "1", "class 0041 1" + s, "class 0041 1" + s + "2", s + "class 0041 1", "class 004" + s + " 1", "class 0041" + s + ".0042 1", "kind 0041 lette" + s, "kind 0041 letter" + s + "x", "fold 0041 0042" + s + "0043", "class 0041 1\n" + s, "class 0041 1\r" + s + "\n", s + "\n" + s} {
			check(t, line)
			check(t, line+"\nclass 0041 7\n")
		}
	}
}

// P6.1 to P6.5: files that are spoilt at each byte: cut there, or with that byte gone, or with another one, or more put in.
func TestSpoilt(t *testing.T) {
	puts := []string{" ", "\n", "\r", "#", "\t", ".", "..", "0", "1", "F", "D8", "x", "\xff", "é", "\n0041", "class", "decomp 0043 0041\n"}
	for _, s := range []string{"class 0300..0304 230\nkind 0041 letter # x\r\n", "fold 0041 0061 0062\r\nclass 0041 0", "decomp 0041 0042 0300\ndecomp 0042 0043 0301\nclass 0300 1\n", "kind D7FF..E000 digit\nclass D7FF..E000 7\ndecomp E000 AC00 11A8"} {
		for at := range len(s) + 1 {
			check(t, s[:at])
			check(t, s[at:])
			for _, put := range puts {
				check(t, s[:at]+put+s[at:])
				if at < len(s) {
					check(t, s[:at]+put+s[at+1:])
				}
			}
			if at < len(s) {
				check(t, s[:at]+s[at+1:])
			}
		}
	}
}

// P6.1 to P6.5: files made by chance, of few points, so that lines meet.
func TestChance(t *testing.T) {
	c := chance(9)
	points := []string{"0041", "0042", "0043", "0044", "0300", "0301", "AC00", "1100", "1161", "11A8", "10FFFF", "0000", "D7FF", "E000", "00C0", "00C1"}
	spoilt := []string{"D800", "110000", "41", "0041..0042", "x", ""}
	point := func() string {
		if c.below(60) == 0 {
			return spoilt[c.below(len(spoilt))]
		}
		return points[c.below(len(points))]
	}
	row := func() string {
		a, b := point(), point()
		if c.below(2) == 0 || hexOf(a) > hexOf(b) && c.below(20) > 0 {
			return a
		}
		return a + ".." + b
	}
	wrong := 0
	for range 4000 {
		s := ""
		for range c.below(14) {
			switch c.below(5) {
			case 0:
				s += "class " + row() + " " + []string{"0", "1", "230", "254", "0", "7", "255"}[c.below(6+c.below(2))]
			case 1:
				s += "kind " + row() + " " + names[c.below(len(names))]
			default:
				s += []string{"fold ", "decomp ", "decomp ", "decomp "}[c.below(4)] + point()
				for range 1 + c.below(1+c.below(9)) {
					s += " " + point()
				}
			}
			s += []string{"\n", "\r\n", " # x\n", "\n\n"}[c.below(4)]
		}
		check(t, s)
		if _, e := props.Parse(s); e != nil {
			wrong++
		}
	}
	if wrong < 800 || wrong > 3600 {
		t.Errorf("%d of 4000 are refused: the files are of one kind", wrong)
	}
}
