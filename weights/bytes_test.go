package weights_test

import (
	"math"
	"slices"
	"strings"
	"testing"

	"glossary/weights"
)

// numbers are 0, the numbers about each power of two, and some by chance of each length; rising.
func numbers() []uint64 {
	all := []uint64{0, 10, 100, 1000, 32, 33, 0x6400001, 0x11010200001, math.MaxUint64 - 1, math.MaxUint64}
	for i := range 64 {
		n := uint64(1) << i
		all = append(all, n-1, n, n+1)
	}
	c := chance(3)
	for i := range 640 {
		all = append(all, c.next()>>(i%64))
	}
	slices.Sort(all)
	return slices.Compact(all)
}

// P12.3: the chapter's examples, and numbers about each length.
func TestBytesExamples(t *testing.T) {
	for n, want := range map[uint64]string{
		0:              "\x02",
		1:              "\x03\x01",
		2:              "\x03\x02",
		32:             "\x03\x20",
		255:            "\x03\xff",
		256:            "\x04\x01\x00",
		257:            "\x04\x01\x01",
		0xffff:         "\x04\xff\xff",
		0x10000:        "\x05\x01\x00\x00",
		0xffffff:       "\x05\xff\xff\xff",
		0x1000000:      "\x06\x01\x00\x00\x00",
		0x6400001:      "\x06\x06\x40\x00\x01",
		1<<32 - 1:      "\x06\xff\xff\xff\xff",
		1 << 32:        "\x07\x01\x00\x00\x00\x00",
		1<<40 - 1:      "\x07\xff\xff\xff\xff\xff",
		1 << 40:        "\x08\x01\x00\x00\x00\x00\x00",
		0x11010200001:  "\x08\x01\x10\x10\x20\x00\x01",
		1<<48 - 1:      "\x08\xff\xff\xff\xff\xff\xff",
		1 << 48:        "\x09\x01\x00\x00\x00\x00\x00\x00",
		1<<56 - 1:      "\x09\xff\xff\xff\xff\xff\xff\xff",
		1 << 56:        "\x0a\x01\x00\x00\x00\x00\x00\x00\x00",
		1 << 63:        "\x0a\x80\x00\x00\x00\x00\x00\x00\x00",
		0x0102030405:   "\x07\x01\x02\x03\x04\x05",
		math.MaxUint64: "\x0a\xff\xff\xff\xff\xff\xff\xff\xff",
	} {
		if s := weights.Bytes(n); s != want {
			t.Errorf("Bytes(%d): % x, want % x", n, s, want)
		}
		if m, wide, ok := weights.Read(want, 0); m != n || wide != len(want) || !ok {
			t.Errorf("Read(% x): %d %d %t, want %d", want, m, wide, ok, n)
		}
	}
}

// P12.3: of all numbers up to a number of three bytes, and of those about each length.
func TestBytes(t *testing.T) {
	held := numbers()
	for n := range uint64(0x10200) {
		held = append(held, n)
	}
	for _, n := range held {
		want := bytesOf(n)
		if s := weights.Bytes(n); s != want {
			t.Fatalf("Bytes(%d): % x, want % x", n, s, want)
		}
	}
}

// P12.3: numbers are read as they were written, wherever they stand, whatever stands beside them.
func TestReadBytes(t *testing.T) {
	for _, n := range numbers() {
		s := bytesOf(n)
		for _, ahead := range []string{"", "\x00", "\x01", "\xff", "\x02", "\x0a", "\x03", "a\x04b"} {
			for _, behind := range []string{"", "\x00", "\x01", "\x02", "\xff", "\x03\x00", "abcdefghi"} {
				if m, wide, ok := weights.Read(ahead+s+behind, len(ahead)); m != n || wide != len(s) || !ok {
					t.Fatalf("Read(% x, %d): %d %d %t, want %d", ahead+s+behind, len(ahead), m, wide, ok, n)
				}
			}
		}
	}
}

// P12.3: numbers one behind the other are read one by one.
func TestReadRow(t *testing.T) {
	all := numbers()
	var b strings.Builder
	for _, n := range all {
		b.WriteString(weights.Bytes(n))
	}
	s, at := b.String(), 0
	for _, n := range all {
		m, wide, ok := weights.Read(s, at)
		if m != n || !ok {
			t.Fatalf("at %d: %d %t, want %d", at, m, ok, n)
		}
		at += wide
	}
	if at != len(s) {
		t.Errorf("%d bytes of %d were read", at, len(s))
	}
}

// P12.3: where no number's bytes stand.
func TestReadNone(t *testing.T) {
	for _, x := range []struct {
		s  string
		at int
	}{
		{"\x04\x01\x00", 1}, {"\x04\x01\x00", 3}, {"\x03\x00", 0}, {"\x0b\x01", 0}, {"\x04\x01", 0},
		{"", 0}, {"", 1}, {"", -1}, {"", math.MaxInt}, {"", math.MinInt},
		{"\x02", -1}, {"\x02", 1}, {"\x02", 2}, {"\x02", math.MaxInt}, {"\x02", math.MinInt}, {"\x03\x01", math.MaxInt - 1},
		{"\x00", 0}, {"\x01", 0}, {"\x01\x01\x01", 0}, {"\x00\x00", 0}, {"\x03", 0}, {"\x05\x01\x02", 0}, {"\x0a\x01\x02\x03\x04\x05\x06\x07", 0},
		{"\x0b\x01\x02\x03\x04\x05\x06\x07\x08\x09", 0}, {"\xff" + strings.Repeat("\xff", 255), 0}, {"\x7f" + strings.Repeat("\x01", 255), 0}, {"\x82" + strings.Repeat("\x01", 255), 0}, {"\x01" + strings.Repeat("\x01", 300), 0}, {"\x00" + strings.Repeat("\x01", 300), 0},
		{"\x04\x00\x01", 0}, {"\x04\x00\x00", 0}, {"\x0a\x00\x01\x02\x03\x04\x05\x06\x07", 0}, {"\x06\x00\xff\xff\xff", 0},
	} {
		if n, wide, ok := weights.Read(x.s, x.at); n != 0 || wide != 0 || ok {
			t.Errorf("Read(% x, %d): %d %d %t", x.s, x.at, n, wide, ok)
		}
	}
}

// P12.3: at each byte that may tell how many come, with each number of bytes behind it, and each first one of them.
func TestReadEachHead(t *testing.T) {
	for head := range 256 {
		for _, first := range []byte{0, 1, 2, 0x7f, 0x80, 0xff} {
			whole := string([]byte{byte(head), first, 0, 2, 3, 4, 5, 6, 7, 8, 9})
			for end := range len(whole) + 1 {
				readAlike(t, whole[:end], 0)
			}
		}
	}
}

// P12.3: at each place of all short texts of bytes that mean something.
func TestReadAllShort(t *testing.T) {
	letters := []byte{0, 1, 2, 3, 4, 5, 0x0a, 0x0b, 0x20, 0x80, 0xff}
	texts := []string{""}
	for len(texts) > 0 {
		s := texts[0]
		texts = texts[1:]
		for at := -2; at <= len(s)+2; at++ {
			readAlike(t, s, at)
		}
		for _, b := range letters {
			if len(s) < 4 {
				texts = append(texts, s+string([]byte{b}))
			}
		}
	}
}

// readAlike holds Read against the second way.
func readAlike(t *testing.T, s string, at int) {
	t.Helper()
	n, wide, ok := weights.Read(s, at)
	if m, w, there := readOf(s, at); n != m || wide != w || ok != there {
		t.Fatalf("Read(% x, %d): %d %d %t, want %d %d %t", s, at, n, wide, ok, m, w, there)
	}
}

// P12.4: bytes stand as the numbers do, and none begins with another one.
func TestBytesInOrder(t *testing.T) {
	all := numbers()
	for i, n := range all {
		s := weights.Bytes(n)
		for _, m := range all[i+1:] {
			more := weights.Bytes(m)
			if s >= more || strings.HasPrefix(more, s) || strings.HasPrefix(s, more) {
				t.Fatalf("%d: % x, %d: % x", n, s, m, more)
			}
		}
	}
}

// R1: no text and no place is too odd; all goes on alike how often it is asked.
func TestReadByChance(t *testing.T) {
	c := chance(5)
	for range 20000 {
		b := make([]byte, c.below(12))
		for i := range b {
			b[i] = byte(c.below(14))
			if c.below(4) == 0 {
				b[i] = byte(c.next())
			}
		}
		for at := range len(b) + 1 {
			readAlike(t, string(b), at)
			readAlike(t, string(b), at)
		}
	}
}
