package trie_test

import (
	"fmt"
	"iter"
	"runtime"
	"slices"
	"strings"
	"sync"
	"testing"
	"weak"

	"glossary/trie"
)

// The calls have the signatures that the chapter lists.
var (
	_ func() *trie.Trie[string]                                  = trie.New[string]
	_ func(*trie.Trie[string], []rune, string) bool              = (*trie.Trie[string]).Put
	_ func(*trie.Trie[string], []rune) (string, bool)            = (*trie.Trie[string]).Get
	_ func(*trie.Trie[string], []rune) (string, int, bool)       = (*trie.Trie[string]).Longest
	_ func(*trie.Trie[string], []rune) bool                      = (*trie.Trie[string]).Take
	_ func(*trie.Trie[string]) int                               = (*trie.Trie[string]).Len
	_ func(*trie.Trie[string]) iter.Seq2[[]rune, string]         = (*trie.Trie[string]).All
	_ func(*trie.Trie[string], []rune) iter.Seq2[[]rune, string] = (*trie.Trie[string]).Below
)

// example is the trie of the chapter's examples: a: 1, ab: 2, abc: 3, b: 4, put in this order of their things.
func example(t *testing.T, things ...int) *trie.Trie[int] {
	t.Helper()
	x := trie.New[int]()
	for _, thing := range things {
		if row := []string{"a", "ab", "abc", "b"}[thing-1]; x.Put([]rune(row), thing) {
			t.Fatalf("there was something under %s", row)
		}
	}
	return x
}

// form is what an iterator hands out, as a text: letters and things.
func form(l iter.Seq2[[]rune, int]) string {
	var parts []string
	for row, thing := range l {
		parts = append(parts, fmt.Sprintf("%s:%d", string(row), thing))
	}
	return strings.Join(parts, " ")
}

// both are a trie and what it should have, put and taken in step.
type both struct {
	t *trie.Trie[int]
	h heap
}

// put tells whether the trie answers what it should.
func (b *both) put(row []rune, thing int) bool { return b.t.Put(row, thing) == b.h.put(row, thing) }

// take likewise.
func (b *both) take(row []rune) bool { return b.t.Take(row) == b.h.take(row) }

// right stops the test at the first thing that is wrong.
func (b *both) right(t *testing.T, asked [][]rune) {
	t.Helper()
	if wrong := wrongIn(b.t, b.h, asked); wrong != "" {
		t.Fatalf("%x: %s", b.h, wrong)
	}
}

// P4.1 to P4.3: the chapter's examples, put in each order.
func TestExamples(t *testing.T) {
	for _, things := range [][]int{{1, 2, 3, 4}, {4, 3, 2, 1}, {3, 4, 2, 1}, {2, 1, 4, 3}, {2, 3, 1, 4}, {3, 1, 4, 2}} {
		x := example(t, things...)
		if !x.Put([]rune("ab"), 5) {
			t.Errorf("%v: nothing was under ab", things)
		}
		got := func(row string) string {
			thing, ok := x.Get([]rune(row))
			return fmt.Sprint(thing, ok)
		}
		longest := func(row string) string {
			thing, n, ok := x.Longest([]rune(row))
			return fmt.Sprint(thing, n, ok)
		}
		if s := got("ab") + ", " + got("abx") + ", " + got(""); s != "5 true, 0 false, 0 false" {
			t.Errorf("%v: Get: %s", things, s)
		}
		if s := longest("abd") + ", " + longest("abcd") + ", " + longest("c") + ", " + longest(""); s != "5 2 true, 3 3 true, 0 0 false, 0 0 false" {
			t.Errorf("%v: Longest: %s", things, s)
		}
		if x.Put(nil, 9) || longest("c") != "9 0 true" || longest("") != "9 0 true" {
			t.Errorf("%v: with one under none: %s, %s", things, longest("c"), longest(""))
		}
		if s := form(x.All()) + ", " + form(x.Below([]rune("ab"))) + ", " + form(x.Below([]rune("x"))); s != ":9 a:1 ab:5 abc:3 b:4, ab:5 abc:3, " {
			t.Errorf("%v: %s", things, s)
		}
		if !x.Take([]rune("ab")) || x.Take([]rune("ab")) || longest("abd") != "1 1 true" || x.Len() != 4 {
			t.Errorf("%v: without ab: %s, %d", things, longest("abd"), x.Len())
		}
	}
}

// P4.3: the chapter's last example: the order of rows of any numbers.
func TestOrderExample(t *testing.T) {
	x := both{t: trie.New[int]()}
	for i, row := range [][]rune{{0}, {-1}, {0x110080, 0}, {0x110080}} {
		if !x.put(row, i) {
			t.Fatalf("Put(%x)", row)
		}
	}
	if l := told(x.t.All()); !alike(l, []held{{[]rune{-1}, 1}, {[]rune{0}, 0}, {[]rune{0x110080}, 3}, {[]rune{0x110080, 0}, 2}}) {
		t.Errorf("All: %x", l)
	}
}

// P4.1 to P4.4: a trie in which nothing is, and one in which nothing is any more.
func TestNothing(t *testing.T) {
	x, asked := both{t: trie.New[int]()}, rowsOf(2, ends...)
	x.right(t, asked)
	for _, row := range asked {
		if x.t.Take(row) {
			t.Fatalf("Take(%x) of nothing", row)
		}
	}
	x.right(t, asked)
	for i, row := range asked {
		x.t.Put(row, i)
	}
	for i, row := range asked {
		if !x.t.Take(row) || x.t.Len() != len(asked)-i-1 {
			t.Fatalf("Take(%x); Len() = %d", row, x.t.Len())
		}
	}
	x.right(t, asked)
}

// P4.1 to P4.5: rows that begin with one another: every four of them, in every order, one of them also several times; then taken one by one.
func TestEveryFew(t *testing.T) {
	rows := [][]rune{nil, []rune("a"), []rune("ab"), []rune("abc"), []rune("abcd"), []rune("abd"), []rune("b")}
	asked := append(rowsOf(2, 'a', 'b'), []rune("abc"), []rune("abcd"), []rune("abcde"), []rune("abd"), []rune("abx"), []rune("bcd"), []rune("x"))
	n := len(rows)
	for i := range n * n * n * n {
		x := both{t: trie.New[int]()}
		order := []int{i % n, i / n % n, i / n / n % n, i / n / n / n}
		for thing, at := range order {
			if !x.put(rows[at], thing) {
				t.Fatalf("%v: Put(%s)", order, string(rows[at]))
			}
		}
		x.right(t, asked)
		for first := range order {
			at := order[(i+first)%len(order)]
			if !x.take(rows[at]) {
				t.Fatalf("%v: Take(%s)", order, string(rows[at]))
			}
			x.right(t, asked)
		}
	}
}

// P4.1 to P4.5: long runs of putting and taking, of few numbers and of such as lie at both ends, held against the second way.
func TestLongRuns(t *testing.T) {
	for seed, letters := range [][]rune{{'a'}, {0, -1}, {'a', 'b', 'c'}, ends} {
		c := chance(seed)
		x := both{t: trie.New[int]()}
		asked := rowsOf(2, letters...)
		for range 40 {
			asked = append(asked, c.row(9, letters))
		}
		for step := range 1500 {
			row := c.row(7, letters)
			if c.below(5) < 2 && len(x.h) > 0 {
				row = x.h[c.below(len(x.h))].row // one that is there
			}
			if c.below(100) < 45+step%30 {
				if !x.put(row, step) {
					t.Fatalf("%d, step %d: Put(%x)", seed, step, row)
				}
			} else if !x.take(row) {
				t.Fatalf("%d, step %d: Take(%x)", seed, step, row)
			}
			if step%25 == 0 {
				x.right(t, asked)
			}
		}
		for len(x.h) > 0 {
			if row := slices.Clone(x.h[c.below(len(x.h))].row); !x.take(row) {
				t.Fatalf("%d: Take(%x)", seed, row)
			}
		}
		x.right(t, asked)
	}
}

// P4.1: a thing that is the zero value of its type is one all the same.
func TestZeroThings(t *testing.T) {
	x := trie.New[int]()
	for _, row := range [][]rune{nil, {0}, {0, 0}} {
		if x.Put(row, 0) || !x.Put(row, 0) {
			t.Errorf("Put(%x)", row)
		}
		if thing, ok := x.Get(row); thing != 0 || !ok {
			t.Errorf("Get(%x) = %d, %v", row, thing, ok)
		}
		if thing, n, ok := x.Longest(slices.Concat(row, []rune{7})); thing != 0 || n != len(row) || !ok {
			t.Errorf("Longest behind %x = %d, %d, %v", row, thing, n, ok)
		}
	}
	if x.Len() != 3 || len(told(x.All())) != 3 {
		t.Errorf("%d things, %d told", x.Len(), len(told(x.All())))
	}
}

// P4.1, P4.2: beside a false all is zero, also where something stood once, stands ahead, or stands behind.
func TestZeroBesideFalse(t *testing.T) {
	x := trie.New[[2]string]()
	for _, row := range []string{"", "a", "abc"} {
		x.Put([]rune(row), [2]string{row, "!"})
	}
	x.Take([]rune("a"))
	x.Take(nil)
	for _, row := range []string{"", "a", "ab", "b", "abcd"} {
		if thing, ok := x.Get([]rune(row)); thing != [2]string{} || ok {
			t.Errorf("Get(%s) = %q, %v", row, thing, ok)
		}
	}
	for _, row := range []string{"", "a", "ab", "b", "abd"} {
		if thing, n, ok := x.Longest([]rune(row)); thing != [2]string{} || n != 0 || ok {
			t.Errorf("Longest(%s) = %q, %d, %v", row, thing, n, ok)
		}
	}
}

// P4.1: things of any type are handed on as Go assigns them: what they lead to is not copied.
func TestThingsOfAnyType(t *testing.T) {
	lists := trie.New[[]int]()
	l := []int{1, 2}
	lists.Put([]rune("a"), l)
	l[0] = 7
	for _, thing := range lists.All() {
		thing[1] = 8
	}
	if thing, _ := lists.Get([]rune("a")); !slices.Equal(thing, []int{7, 8}) || &thing[0] != &l[0] {
		t.Errorf("a list comes back as %v", thing)
	}
	values := trie.New[any]()
	if values.Put(nil, nil) || !values.Put(nil, nil) {
		t.Error("nil is no thing")
	}
	if thing, ok := values.Get(nil); thing != nil || !ok {
		t.Errorf("nil comes back as %v, %v", thing, ok)
	}
	calls := trie.New[func() int]()
	calls.Put([]rune{-1}, func() int { return 42 })
	if call, n, ok := calls.Longest([]rune{-1, -1}); !ok || n != 1 || call() != 42 {
		t.Errorf("a function comes back: %d, %v", n, ok)
	}
	none := trie.New[struct{}]()
	none.Put([]rune("ab"), struct{}{})
	if _, n, ok := none.Longest([]rune("abc")); n != 2 || !ok {
		t.Errorf("a thing without a size: %d, %v", n, ok)
	}
}

// P4.2: of each row with its beginnings, whichever of them have a thing.
func TestLongest(t *testing.T) {
	for _, l := range [][]rune{[]rune("abcde"), {0, 0, 0, 0, 0}, {-1 << 31, 1<<31 - 1, -1, 0x110080, 0}} {
		for have := range 1 << (len(l) + 1) {
			x := both{t: trie.New[int]()}
			asked := [][]rune{slices.Concat(l, l), {l[0], 77}, {77}}
			for n := range len(l) + 1 {
				if have>>n&1 == 1 {
					x.put(l[:n], n)
				}
				asked = append(asked, l[:n], slices.Concat(l[:n], []rune{77}))
			}
			x.right(t, asked)
		}
	}
}

// P4.3: an iterator goes over what there was when it was got, whatever is put and taken afterwards.
func TestIteratorsStay(t *testing.T) {
	letters := []rune{-1, 0, 'a'}
	c, asked := chance(3), rowsOf(3, letters...)
	x := both{t: trie.New[int]()}
	for step := range 30 {
		all, want := x.t.All(), x.h.below(nil)
		below, wants := []iter.Seq2[[]rune, int]{}, [][]held{}
		for _, row := range asked {
			below, wants = append(below, x.t.Below(row)), append(wants, x.h.below(row))
		}
		for i := range 20 {
			if row := c.row(4, letters); c.below(3) < 2 {
				x.put(row, 100*step+i)
			} else {
				x.take(row)
			}
		}
		for range 2 {
			if got := told(all); !alike(got, want) {
				t.Fatalf("All: %x; there was %x", got, want)
			}
			for i, l := range below {
				if got := told(l); !alike(got, wants[i]) {
					t.Fatalf("Below(%x): %x; there was %x", asked[i], got, wants[i])
				}
			}
		}
		x.right(t, asked)
	}
}

// P4.3: what is put and taken while one goes over a trie is not seen either.
func TestChangedWithin(t *testing.T) {
	x := example(t, 1, 2, 3, 4)
	all := x.All()
	s := ""
	for row, thing := range all {
		s += fmt.Sprintf("%s:%d ", string(row), thing)
		x.Take(row)
		x.Take([]rune("abc"))
		x.Put([]rune("b"), 9)
		x.Put(append(row, 'z'), 7)
	}
	if s != "a:1 ab:2 abc:3 b:4 " || form(all) != "a:1 ab:2 abc:3 b:4" {
		t.Errorf("%s; again: %s", s, form(all))
	}
	if s := form(x.All()); s != "abcz:7 abz:7 az:7 b:9 bz:7" {
		t.Errorf("and then: %s", s)
	}
}

// P4.3: iterators may be left ahead of their end, gone over again, and gone over within themselves.
func TestLeft(t *testing.T) {
	left := func(l iter.Seq2[[]rune, int], n int) []held {
		var got []held
		for row, thing := range l {
			if len(got) == n {
				break
			}
			got = append(got, held{row, thing})
		}
		return got
	}
	x := both{t: trie.New[int]()}
	for i, row := range rowsOf(2, -1, 0, 'a') {
		x.put(row, i)
	}
	for _, key := range [][]rune{nil, {0}, {'a', -1}, {7}} {
		l, want := x.t.Below(key), x.h.below(key)
		for n := range len(want) + 2 {
			if got := left(l, n); !alike(got, want[:min(n, len(want))]) {
				t.Errorf("Below(%x), left behind %d: %x", key, n, got)
			}
		}
		var outer []held
		for row, thing := range l {
			outer = append(outer, held{row, thing})
			if inner := left(l, len(outer)); !alike(inner, outer) || !alike(told(l), want) {
				t.Errorf("Below(%x), within itself: %x", key, inner)
			}
		}
		if !alike(outer, want) {
			t.Errorf("Below(%x): %x", key, outer)
		}
	}
}

// P4.4: what follows, told by the trie alone.
func TestWhatFollows(t *testing.T) {
	c, asked := chance(8), rowsOf(2, ends...)
	for range 30 {
		x := trie.New[int]()
		for i := range 60 {
			x.Put(c.row(4, ends), i)
		}
		all := told(x.All())
		if len(all) != x.Len() || !alike(told(x.Below(nil)), all) {
			t.Fatalf("All tells %d, Len %d", len(all), x.Len())
		}
		for i, y := range all {
			if thing, ok := x.Get(y.row); thing != y.thing || !ok {
				t.Fatalf("Get(%x) = %d, %v; All tells %d", y.row, thing, ok, y.thing)
			}
			if i > 0 && order(all[i-1].row, y.row) >= 0 {
				t.Fatalf("%x behind %x", y.row, all[i-1].row)
			}
		}
		for _, key := range asked {
			if below := told(x.Below(key)); !alike(below, heap(all).below(key)) {
				t.Fatalf("Below(%x): %x; All: %x", key, below, all)
			}
			l := slices.Concat(key, c.row(4, ends))
			thing, n, ok := x.Longest(l)
			if there, found := x.Get(l[:n]); there != thing || found != ok {
				t.Fatalf("Longest(%x) = %d, %d, %v; Get = %d, %v", l, thing, n, ok, there, found)
			}
			for long := n + 1; long <= len(l); long++ {
				if _, found := x.Get(l[:long]); found {
					t.Fatalf("Longest(%x) tells %d; Get finds %d", l, n, long)
				}
			}
		}
	}
}

// P4.5: a Put of a row under which there was none, and a Take of it, leave all as it was; so does all that touches other rows.
func TestPutAndTaken(t *testing.T) {
	c, asked := chance(21), rowsOf(3, -1, 0, 'a')
	for range 12 {
		x := both{t: trie.New[int]()}
		for i := range c.below(20) {
			x.put(asked[c.below(len(asked))], i)
		}
		before := told(x.t.All())
		for _, row := range asked {
			if _, there := x.t.Get(row); there {
				continue
			}
			if x.t.Put(row, 77) || !x.t.Put(row, 78) || x.t.Len() != len(before)+1 || !x.t.Take(row) {
				t.Fatalf("%x: Put and Take of %x", before, row)
			}
			if after := told(x.t.All()); !alike(after, before) {
				t.Fatalf("%x: with %x put and taken: %x", before, row, after)
			}
		}
		x.right(t, asked)
		for _, y := range before {
			if !x.take(y.row) || !x.put(y.row, y.thing) {
				t.Fatalf("%x: Take and Put of %x", before, y.row)
			}
		}
		x.right(t, asked)
	}
}

// P4.5, R5: two tries have nothing to do with one another.
func TestTwo(t *testing.T) {
	x, y := example(t, 1, 2, 3, 4), example(t, 4, 3)
	x.Take([]rune("abc"))
	y.Put([]rune("a"), 9)
	if form(x.All()) != "a:1 ab:2 b:4" || form(y.All()) != "a:9 abc:3 b:4" {
		t.Errorf("%s; %s", form(x.All()), form(y.All()))
	}
}

// R4: rows that are handed in are neither changed nor kept, and each that is handed out is new memory, spare room included.
func TestMemory(t *testing.T) {
	x := trie.New[int]()
	room := []rune("abcdefgh")
	for i, n := range []int{6, 3, 0, 8, 4, 3} {
		x.Put(room[:n], i)
	}
	below := x.Below(room[:4])
	x.Get(room[:5])
	x.Longest(room[:5])
	x.Take(room[:4])
	x.Put(room[:4], 4)
	if string(room) != "abcdefgh" {
		t.Errorf("a row has been changed: %s", string(room))
	}
	clear(room)
	for range 2 {
		for _, l := range []iter.Seq2[[]rune, int]{x.All(), x.Below([]rune("abcd")), below} {
			var rows [][]rune
			for row := range l {
				rows = append(rows, row)
			}
			for i, row := range rows {
				if string(row) != "abcdefgh"[:len(row)] {
					t.Errorf("a row has changed: %x", row)
				}
				row = row[:cap(row)]
				for at := range row {
					row[at] = rune(-i)
				}
			}
			for i, row := range rows {
				row = row[:cap(row)]
				if slices.ContainsFunc(row, func(r rune) bool { return r != rune(-i) }) {
					t.Errorf("two rows share memory: %x", row)
				}
			}
		}
		if s := form(x.All()) + ", " + form(below); s != ":2 abc:5 abcd:4 abcdef:0 abcdefgh:3, abcd:4 abcdef:0 abcdefgh:3" {
			t.Errorf("a trie has changed: %s", s)
		}
	}
}

// Nothing that was taken away, or put aside by another thing, is kept.
func TestLetGo(t *testing.T) {
	x := trie.New[*[64]int]()
	var gone []weak.Pointer[[64]int]
	for _, row := range []string{"", "a", "abc", "abd", "ab", "b"} {
		for range 2 {
			thing := new([64]int)
			gone = append(gone, weak.Make(thing))
			x.Put([]rune(row), thing)
		}
	}
	for _, row := range []string{"ab", "abc", "", "a", "abd", "b"} {
		x.Take([]rune(row))
	}
	runtime.GC()
	for i, thing := range gone {
		if thing.Value() != nil {
			t.Errorf("thing %d is kept", i)
		}
	}
	runtime.KeepAlive(x)
}

// R5: many may ask the same trie at once.
func TestSideBySide(t *testing.T) {
	x := example(t, 3, 1, 4, 2)
	all := x.All()
	var group sync.WaitGroup
	for range 4 {
		group.Go(func() {
			for range 50 {
				thing, n, ok := x.Longest([]rune("abx"))
				if form(all) != "a:1 ab:2 abc:3 b:4" || form(x.All()) != form(all) || form(x.Below([]rune("ab"))) != "ab:2 abc:3" || thing != 2 || n != 2 || !ok || x.Len() != 4 {
					t.Error("a trie tells something else")
				}
			}
		})
	}
	group.Wait()
}

// R1: very long rows, and such as part from them.
func TestLongRows(t *testing.T) {
	const long = 1 << 21
	row := make([]rune, long)
	for i := range row {
		row[i] = rune(i % 7)
	}
	x := trie.New[int]()
	x.Put(row, long)
	for _, n := range []int{long - 1, 1, long / 2, 0, long / 3} {
		x.Put(row[:n], n)
		other := append(slices.Clone(row[:n]), -1)
		x.Put(other, -n-1)
		if thing, at, ok := x.Longest(append(other, 5)); thing != -n-1 || at != n+1 || !ok {
			t.Errorf("Longest of a row of %d = %d, %d, %v", n+2, thing, at, ok)
		}
	}
	if thing, at, ok := x.Longest(row[:long-2]); thing != long/2 || at != long/2 || !ok {
		t.Errorf("Longest of a row of %d = %d, %d, %v", long-2, thing, at, ok)
	}
	var things []int
	for key, thing := range x.All() {
		if len(key) != max(thing, -thing) {
			t.Errorf("a row of %d has the thing %d", len(key), thing)
		}
		things = append(things, thing)
	}
	if !slices.Equal(things, []int{0, -1, 1, -2, long / 3, -long/3 - 1, long / 2, -long/2 - 1, long - 1, -long, long}) || x.Len() != len(things) {
		t.Errorf("All: %d", things)
	}
	for _, n := range []int{0, long / 2, long, 1, long / 3, long - 1} {
		if !x.Take(row[:n]) {
			t.Errorf("Take of a row of %d", n)
		}
	}
	if _, _, ok := x.Longest(row); ok || x.Len() != 5 {
		t.Errorf("something is left: %v of %d", ok, x.Len())
	}
}

// R1: a row and all its beginnings, put from the shortest on, from the longest on, and every second one first.
func TestChains(t *testing.T) {
	const long = 3000
	row := make([]rune, long)
	for i := range row {
		row[i] = ends[i%len(ends)]
	}
	for _, step := range []int{1, long - 1, 7, 1501} { // none has a part in common with long, so all are come to
		x := trie.New[int]()
		for i := range long {
			n := i * step % long
			if x.Put(row[:n], n) {
				t.Fatalf("there was something under %d", n)
			}
		}
		n := 0
		for key, thing := range x.All() {
			if thing != n || !same(key, row[:n]) {
				t.Fatalf("the thing %d under %d numbers; want %d", thing, len(key), n)
			}
			n++
		}
		for i := range long {
			at := long - 1 - i*step%long
			if thing, ok := x.Get(row[:at]); thing != at || !ok || !x.Take(row[:at]) {
				t.Fatalf("Get and Take of %d: %d, %v", at, thing, ok)
			}
		}
		if n != long || x.Len() != 0 || len(told(x.All())) != 0 {
			t.Fatalf("All tells %d; %d are left", n, x.Len())
		}
	}
}

// R1: many rows side by side.
func TestMany(t *testing.T) {
	const many = 200000
	x := trie.New[int]()
	row := func(i int) []rune { return []rune{rune(i*7919%many - many/2), rune(i % 3)} }
	for i := range many {
		if x.Put(row(i), i) {
			t.Fatalf("there was something under %x", row(i))
		}
	}
	last, n := []rune(nil), 0
	for key, i := range x.All() {
		if order(last, key) >= 0 || !same(key, row(i)) {
			t.Fatalf("%x behind %x", key, last)
		}
		last = key
		n++
	}
	for i := range many {
		if thing, ok := x.Get(row(i)); thing != i || !ok {
			t.Fatalf("Get(%x) = %d, %v", row(i), thing, ok)
		}
		if i%2 == 0 && !x.Take(row(i)) {
			t.Fatalf("Take(%x)", row(i))
		}
	}
	if n != many || x.Len() != many/2 {
		t.Fatalf("All tells %d; %d are left", n, x.Len())
	}
}
