package props_test

import (
	"slices"
	"strings"
	"testing"

	"glossary/api"
	"glossary/props"
)

// P6.2: rings of one point, of two and of many; who comes to a ring is told, too.
func TestRings(t *testing.T) {
	for s, line := range map[string]int{
		"decomp 0041 0041":                                                            1,
		"decomp 0041 0042 0043 0041":                                                  1,
		"decomp 0041 0042\ndecomp 0042 0043 0041":                                     1,
		"decomp 0042 0043 0041\ndecomp 0041 0042":                                     2,
		"decomp 0040 0041\ndecomp 0041 0042\ndecomp 0042 0041":                        1, // the least point of those that come to no end
		"decomp 0041 0042\ndecomp 0042 0041\ndecomp 0040 0041":                        3,
		"decomp 0041 0042\ndecomp 0042 0041\ndecomp 0043 0041":                        1, // it comes to a ring, but isn't the least
		"decomp 0041 0050\ndecomp 0042 0050 0050\ndecomp 0050 0051\ndecomp 0051 0050": 1,
		"decomp 0040 0060\ndecomp 0041 0061\ndecomp 0061 0061\n":                      2,
		"decomp 0041 0060 0061 0062 0063\ndecomp 0063 0060 0064 0041":                 1,
		"decomp 0044 0041\ndecomp 0043 0044\ndecomp 0042 0043\ndecomp 0041 0042":      4,
		"decomp 0041 AC00 AC01 0042\ndecomp 0042 AC00 0041":                           1,
		"decomp 10FFFF 10FFFE\n\ndecomp 10FFFE 10FFFF":                                3,
		"decomp 0000 0000": 1,
		"decomp 0041 0060 0060\ndecomp 0060 0061 0061\ndecomp 0042 0060 0042\ndecomp 0061 0062":      3,
		"fold 0041 0041\n# x\ndecomp 0043 0044 0042\nclass 0041 1\nkind 0041 mark\ndecomp 0042 0043": 6,
	} {
		refuses(t, s, api.ErrLoop, line)
		check(t, s)
	}
	for _, s := range []string{"decomp 0041 0042 0042\ndecomp 0042 0043 0043\ndecomp 0043 0044", "decomp 0041 0042 0043\ndecomp 0042 0044\ndecomp 0043 0044\ndecomp 0044 0045 0045", "decomp 0043 0042\ndecomp 0042 0041"} {
		parsed(t, s)
		check(t, s)
	}
}

// P6.2: full decompositions of MaxPiece points and of one more, told outright and through others.
func TestPieces(t *testing.T) {
	const eight = " 0061 0062 0063 0064 0065 0066 0067 0068"
	for _, s := range []string{
		"decomp 0041" + eight, "decomp 0040 0041\ndecomp 0041" + eight, "decomp 0041 0042 0042 0042 0042\ndecomp 0042 0043 0043", "decomp 0041 0042 0042\ndecomp 0042 0043 0043\ndecomp 0043 0044 0044", "decomp 0041 0042 0061 0062 0063 0064 0065 0066\ndecomp 0042 0067 0068",
		"decomp 0041 AC00 AC00 AC00 AC00", "decomp 0041 AC01 AC01 AC00", "decomp 0041 AC01 AC01 0042 0043", "decomp 0041 0042 AC00\ndecomp 0042 AC01 AC01", "fold 0041" + eight + "\nfold 0042 0041 0041 0041",
	} {
		parsed(t, s)
		check(t, s)
	}
	for s, line := range map[string]int{
		"decomp 0041 0042 0042 0042\ndecomp 0042 0043 0043 0043": 1, "decomp 0042 0043 0043 0043\ndecomp 0041 0042 0042 0042": 2, "decomp 0041 0042 0061 0062 0063 0064 0065 0066 0067\ndecomp 0042 0067 0068": 1, "decomp 0041 0061 0062 0063 0064 0065 0066 0067 AC00": 1,
		"decomp 0041 AC00 AC00 AC00 AC01": 1, "decomp 0041 AC00 AC00 AC00 AC00 0061": 1, "decomp 0042 0061\ndecomp 0041 0043\ndecomp 0043 0044 0061\ndecomp 0044" + eight: 2, "decomp 0041 0042 0042\ndecomp 0042 0043 0043\ndecomp 0043 0044 0044\ndecomp 0044 0045\ndecomp 0045 0061 0062": 1,
		"decomp 0041 0061 0042\ndecomp 0040 0061\ndecomp 0042" + eight: 1, "decomp 0050 0042 0042 0042\ndecomp 0041 0042 0042\ndecomp 0042 0043 0043 0043": 1,
	} {
		refuses(t, s, api.ErrMany, line)
		check(t, s)
	}
}

// P6.2: of a point ErrLoop is told ahead of ErrMany; of two points the first, whichever it is.
func TestRingsAndPieces(t *testing.T) {
	const nine = " AC01 AC01 AC01"
	for s, want := range map[string]api.Fault{
		"decomp 0041" + nine + " 0041":                                     {No: api.ErrLoop, Line: 1},
		"decomp 0041 0041" + nine:                                          {No: api.ErrLoop, Line: 1},
		"decomp 0041 0042 0043\ndecomp 0042" + nine + "\ndecomp 0043 0041": {No: api.ErrLoop, Line: 1},
		"decomp 0041" + nine + "\ndecomp 0042 0042":                        {No: api.ErrMany, Line: 1},
		"decomp 0042 0042\ndecomp 0041" + nine:                             {No: api.ErrMany, Line: 2},
		"decomp 0041 0041\ndecomp 0042" + nine:                             {No: api.ErrLoop, Line: 1},
		"decomp 0042" + nine + "\ndecomp 0041 0041":                        {No: api.ErrLoop, Line: 2},
		"decomp 0040 0042 0042\ndecomp 0041 0041\ndecomp 0042 AC01 AC01":   {No: api.ErrMany, Line: 1},
		"decomp 0040 0042 0041\ndecomp 0041 0041\ndecomp 0042" + nine:      {No: api.ErrLoop, Line: 1},
	} {
		refuses(t, s, want.No, want.Line)
		check(t, s)
	}
}

// P6.2: all small files of decompositions of three points into one or two of four.
func TestSmallFiles(t *testing.T) {
	var lists []string
	points := []string{" 0041", " 0042", " 0043", " AC01"}
	for _, a := range points {
		lists = append(lists, a)
		for _, b := range points {
			lists = append(lists, a+b, a+b+b)
		}
	}
	for _, a := range lists {
		for _, b := range lists {
			check(t, "decomp 0043"+a+"\ndecomp 0041"+b)
			for _, c := range lists {
				s := "decomp 0042" + a + "\ndecomp 0041" + b + "\ndecomp 0043" + c
				_, fault := told(s)
				p, e := props.Parse(s)
				if fault.No == api.OK {
					if e != nil {
						t.Fatalf("Parse(%q): %v", s, e)
					}
				} else if wrong := refused(p, e, fault); wrong != "" {
					t.Fatalf("Parse(%q): %s: %v %#v; want %#v", s, wrong, e, e, fault)
				}
			}
		}
	}
}

// R1, P6.2: rows of decompositions, each of the next one, as long as a file allows; open, and shut to a ring.
func TestLongRows(t *testing.T) {
	const n = 50000
	for _, rising := range []bool{true, false} {
		var lines []string
		for i := range rune(n) {
			r, next := 0x20000+i, 0x20001+i
			if !rising {
				r, next = 0x40000-i, 0x3ffff-i
			}
			lines = append(lines, "decomp "+hex(r)+" "+hex(next)+"\n")
		}
		s := strings.Join(lines, "")
		p := parsed(t, s)
		if first := hexOf(lines[0][7:12]); !slices.Equal(p.Decomp(first), []rune{hexOf(lines[0][13:18])}) {
			t.Errorf("Decomp(%x): %x", first, p.Decomp(first))
		}
		last := hexOf(lines[n-1][13:18])
		line := 1 // of the least point
		if !rising {
			line = n + 1
		}
		refuses(t, s+"decomp "+hex(last)+" "+lines[0][7:12]+"\n", api.ErrLoop, line)
		refuses(t, s+"decomp "+hex(last)+" "+hex(last)+"\n", api.ErrLoop, line)
		if rising {
			refuses(t, s+"decomp "+hex(last)+" AC01 AC01 AC01\n", api.ErrMany, line)
		}
		parsed(t, s+"decomp "+hex(last)+" AC01 AC01 AC00\n")
	}
}

// R1, P6.2: decompositions that would have more points than any number can tell, and others that go the same ways again and again.
func TestManyWays(t *testing.T) {
	var b strings.Builder
	for i := range rune(2000) {
		b.WriteString("decomp " + hex(0x5000+i))
		for range 8 {
			b.WriteString(" " + hex(0x5001+i))
		}
		b.WriteString("\n")
	}
	refuses(t, b.String(), api.ErrMany, 1)
	refuses(t, b.String()+"decomp 57D0 5000", api.ErrLoop, 1)
	refuses(t, b.String()+"decomp 57D0 0041 57D0", api.ErrLoop, 1)
	refuses(t, "decomp 57D0 5000\n"+b.String(), api.ErrLoop, 2)
	refuses(t, b.String()+"decomp 0041 0042", api.ErrMany, 1)
	refuses(t, "decomp 4FFF 4FFF\n"+b.String(), api.ErrLoop, 1)
}
