package props

import (
	"maps"
	"slices"

	"glossary/api"
)

// reader holds what the lines of a file say, while they are read.
type reader struct {
	says           map[string]func([]string) api.Errno // by the first word of a line, what takes the words behind it
	line           int                                 // the one that is looked at
	classes, kinds []row
	decomps, folds map[rune][]rune
	lines          map[rune]int // where a point's decomposition is told
	lengths        map[rune]int // of full decompositions, as far as they are known
}

// endless is the length of a full decomposition that comes to no end.
const endless = -1

// newReader is one to which no line came.
func newReader() *reader {
	r := &reader{decomps: map[rune][]rune{}, folds: map[rune][]rune{}, lines: map[rune]int{}, lengths: map[rune]int{}}
	r.says = map[string]func([]string) api.Errno{"class": r.class, "kind": r.kind, "fold": r.fold, "decomp": r.decomp}
	return r
}

// take takes a line's words.
func (r *reader) take(words []string) api.Errno {
	if len(words) == 0 {
		return api.OK
	}
	say, ok := r.says[words[0]]
	switch {
	case !ok:
		return api.ErrWord
	case len(words) < 3:
		return api.ErrShort
	}
	return say(words[1:])
}

// class, kind, fold and decomp take the words behind the one that they are called by.
func (r *reader) class(words []string) api.Errno {
	x, no := rowOf(words, classOf)
	if no == api.OK {
		r.classes = append(r.classes, x)
	}
	return no
}

func (r *reader) kind(words []string) api.Errno {
	x, no := rowOf(words, kindOf)
	if no == api.OK {
		r.kinds = append(r.kinds, x)
	}
	return no
}

func (r *reader) fold(words []string) api.Errno {
	l, no := pointsOf(words)
	if no != api.OK {
		return no
	}
	return put(r.folds, l)
}

func (r *reader) decomp(words []string) api.Errno {
	l, no := pointsOf(words)
	if no != api.OK {
		return no
	}
	if no := put(r.decomps, l); no != api.OK {
		return no
	}
	if isHangul(l[0]) {
		return api.ErrArg
	}
	r.lines[l[0]] = r.line
	return api.OK
}

// put puts under the first point of a line those behind it.
func put(m map[rune][]rune, l []rune) api.Errno {
	if _, ok := m[l[0]]; ok {
		return api.ErrTwice
	}
	m[l[0]] = l[1:]
	return api.OK
}

// fault is an error at the line that is looked at.
func (r *reader) fault(no api.Errno) error { return api.Fault{No: no, Line: r.line} }

// decomposed are the points whose decompositions lines tell, rising.
func (r *reader) decomposed() []rune { return slices.Sorted(maps.Keys(r.decomps)) }

// ended tells what is wrong with the full decomposition of a point.
func (r *reader) ended(x rune) api.Errno {
	n := r.length(x)
	switch {
	case n == endless:
		return api.ErrLoop
	case n > api.MaxPiece:
		return api.ErrMany
	}
	return api.OK
}

// length is how many points the full decomposition of a point has, endless, or, of all that have too many, one too many: they may have more than any number can tell.
func (r *reader) length(x rune) int {
	if isSyllable(x) {
		return len(parts(x))
	}
	own, ok := r.decomps[x]
	if !ok {
		return 1
	}
	if n, ok := r.lengths[x]; ok {
		return n
	}
	// Who comes back to x before its length is known has gone in a ring.
	r.lengths[x] = endless
	sum := 0
	for _, y := range own {
		n := r.length(y)
		if n == endless {
			return endless
		}
		sum = min(sum+n, api.MaxPiece+1)
	}
	r.lengths[x] = sum
	return sum
}

// props are the properties that all lines come to.
func (r *reader) props() *Props {
	p := &Props{decomps: r.decomps, folds: r.folds, made: map[pair]rune{}}
	p.classes = runsOf(slices.Concat(r.classes, hangulClasses(), noCharacters()))
	p.kinds = runsOf(slices.Concat(syllableKinds(), r.kinds, noCharacters()))
	for _, x := range r.decomposed() {
		own := p.decomps[x]
		if len(own) != 2 || p.Class(own[0]) != 0 {
			continue
		}
		if _, ok := p.made[pair{own[0], own[1]}]; !ok {
			p.made[pair{own[0], own[1]}] = x
		}
	}
	return p
}
