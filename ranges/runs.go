package ranges

import "glossary/api"

// parts are the spans in which every number is a point.
var parts = [...]api.Span{{Lo: 0, Hi: 0xd7ff}, {Lo: 0xe000, Hi: api.MaxChar}, {Lo: api.Ill + 0x80, Hi: api.MaxIll}}

// all is how many points there are.
const all = 0xd7ff + 1 + api.MaxChar - 0xe000 + 1 + 0x80

// run is a span by what numbers its points have among all points, from 0 on: from one on, ahead of another. So no number that is no point lies in it, and it touches another one just if one of them ends where the other begins.
type run struct{ from, to int }

// common are the points that two runs have in common; run{}, if there are none.
func common(a, b run) run {
	x := run{max(a.from, b.from), min(a.to, b.to)}
	if x.from >= x.to {
		return run{}
	}
	return x
}

// number is what number a point has among all points; whether it is a point.
func number(r rune) (int, bool) {
	ahead := 0
	for _, x := range parts {
		switch {
		case r < x.Lo:
			return 0, false
		case r <= x.Hi:
			return ahead + int(r-x.Lo), true
		}
		ahead += wide(x)
	}
	return 0, false
}

// point is the point that has this number among all points.
func point(n int) rune {
	for _, x := range parts {
		if n < wide(x) {
			return x.Lo + rune(n)
		}
		n -= wide(x)
	}
	return api.MaxIll
}

// wide is how many numbers a span has.
func wide(x api.Span) int { return int(x.Hi-x.Lo) + 1 }
