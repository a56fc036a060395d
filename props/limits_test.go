package props_test

import (
	"strings"
	"testing"

	"glossary/api"
	"glossary/props"
)

const (
	maxSource = 1048576
	maxLines  = 65536
)

// tooMany checks that a file is refused for its bytes or lines, without a place.
func tooMany(t *testing.T, s string) {
	t.Helper()
	p, e := props.Parse(s)
	if wrong := refused(p, e, api.Fault{No: api.ErrMany}); wrong != "" {
		t.Errorf("Parse(%.20q), of %d bytes: %s: %v", s, len(s), wrong, e)
	}
}

// P6.1: files of MaxSource bytes, and of one more; whatever else is wrong in these.
func TestMaxSource(t *testing.T) {
	for _, s := range []string{"#", " ", "class 0041 9\n#", "class 0041 9 #\xff", "\n", "class 0041 9\n ", "class 0041 9\n\n"} {
		fill := s[len(s)-1:]
		if fill == "\n" {
			fill = " "
		}
		s += strings.Repeat(fill, maxSource-len(s))
		p := parsed(t, s)
		if want := 9 * strings.Count(s[:5], "class"); p.Class(0x41) != want {
			t.Errorf("%.20q: Class(41) is %d", s, p.Class(0x41))
		}
		for _, more := range []string{s + "#", s + "\n", s + " ", " " + s, "\n" + s, "x" + s, s + s, s + "\nx"} {
			tooMany(t, more)
		}
		refuses(t, s[:maxSource-5]+"\nclas", api.ErrWord, strings.Count(s, "\n")+2)
	}
	refuses(t, strings.Repeat("x", maxSource), api.ErrWord, 1)
	tooMany(t, strings.Repeat("x", maxSource+1))
	refuses(t, "class 0041 "+strings.Repeat("9", maxSource-11), api.ErrArg, 1)
	refuses(t, "class 0041 "+strings.Repeat("0", maxSource-11), api.ErrNumber, 1)
	refuses(t, "class "+strings.Repeat("0", maxSource-8)+" 1", api.ErrNumber, 1)
	refuses(t, "fold 0041 "+strings.Repeat("0", maxSource-10), api.ErrNumber, 1)
	refuses(t, "fold "+strings.Repeat("x ", (maxSource-5)/2), api.ErrMany, 1)
	refuses(t, "kind "+strings.Repeat("x ", (maxSource-5)/2), api.ErrLong, 1)
	refuses(t, "class 0041"+strings.Repeat("..", (maxSource-12)/2)+" 1", api.ErrNumber, 1)
	refuses(t, "kind 0041 "+strings.Repeat("letter", 170000), api.ErrWord, 1)
}

// P6.1: files of MaxLines lines, and of one more, with a line end behind the last one and without.
func TestMaxLines(t *testing.T) {
	for _, line := range []string{"", "#", " ", "\r", "#\xff"} {
		ends := strings.Repeat(line+"\n", maxLines-1)
		for _, last := range []string{"", "class 0041 9", "class 0041 9\n", "class 0041 9\r\n", "class 0041 9 # \r"} {
			if got := parsed(t, ends+last).Class(0x41); got != 9*min(1, len(last)) {
				t.Errorf("%q and %q: Class(41) is %d", line, last, got)
			}
		}
		parsed(t, ends+"\n")
		refuses(t, ends+"class 0041", api.ErrShort, maxLines)
		refuses(t, ends+"class 0041\n", api.ErrShort, maxLines)
		for _, more := range []string{"\n ", "\n#", "\n\n", "\nclass 0041 9", "class 0041 9\nclass 0041 9", "x\nx", "\n\r", "\nx\n"} {
			tooMany(t, ends+more)
			tooMany(t, "class 0041\n"+ends+more)
		}
		tooMany(t, "x\n"+ends+"\n")
	}
	tooMany(t, strings.Repeat("\n", maxSource))
	tooMany(t, strings.Repeat("\n", maxSource+1))
	tooMany(t, strings.Repeat("\n", maxLines+1))
	parsed(t, strings.Repeat("\n", maxLines))
}

// R1, P6.3: rows without number over one another, of a whole file's lines, are told in one go.
func TestManyRows(t *testing.T) {
	const all = "class 0000..10FFFF 7\n"
	p := parsed(t, strings.Repeat(all, maxSource/len(all)))
	if p.Class(0) != 7 || p.Class(0x10ffff) != 7 || p.Class(0xd800) != 0 || p.Class(0xac00) != 0 || p.Class(0x110000) != 0 {
		t.Error("the same row again and again")
	}
	var in, out, side strings.Builder
	const n = 40000
	for i := range rune(n) {
		class := decimal(int(i % 255))
		in.WriteString("class " + hex(0x20000+i) + ".." + hex(0x40000-i) + " " + class + "\n")
		out.WriteString("class " + hex(0x30000-i) + ".." + hex(0x30000+i) + " " + class + "\n")
		side.WriteString("class " + hex(0x20000+2*i) + " " + class + "\n")
	}
	inner, outer, single := parsed(t, in.String()), parsed(t, out.String()), parsed(t, side.String())
	for i := range rune(n) {
		for _, r := range []rune{0x20000 + i, 0x40000 - i} {
			if got := inner.Class(r); got != int(i%255) {
				t.Fatalf("rows within rows: Class(%x) is %d", r, got)
			}
		}
		if got := outer.Class(0x30000 + i); got != (n-1)%255 {
			t.Fatalf("rows around rows: Class(%x) is %d", 0x30000+i, got)
		}
		if single.Class(0x20000+2*i) != int(i%255) || single.Class(0x20001+2*i) != 0 {
			t.Fatalf("rows of one point: Class(%x)", 0x20000+2*i)
		}
	}
}

// P6.4, P6.5: as many folds and decompositions as a file may have.
func TestManyLists(t *testing.T) {
	var b strings.Builder
	const n = 22000
	for i := range rune(n) {
		b.WriteString("fold " + hex(0x4000+i) + " " + hex(0x10000+i) + "\ndecomp " + hex(0x4000+i) + " " + hex(0x10000+i/2) + " 0300\n")
	}
	p := parsed(t, b.String())
	for i := range rune(n) {
		r, ok := p.Compose(0x10000+i/2, 0x300)
		if l := p.Fold(0x4000 + i); len(l) != 1 || l[0] != 0x10000+i || r != 0x4000+i/2*2 || !ok {
			t.Fatalf("%x: Fold %x, Compose %x %v", 0x4000+i, l, r, ok)
		}
	}
}
