package cells

import (
	"glossary/api"
	"glossary/props"
	"glossary/utf"
)

// unit is what is asked of a unit to tell where edges lie beside it.
type unit struct {
	number rune
	apart  bool // edges lie on both of its sides
	hangs  bool // on what stands ahead of it
	holds  bool // what stands behind it
	hangul int
}

// unitAt is the unit at a place of a text.
func unitAt(p *props.Props, s string, at int) unit {
	r, wide := utf.Decode(s, at)
	// The number alone doesn't tell an ill-formed byte from a U+FFFD that stands in the text, of which lines may speak.
	if r == api.Instead && wide == 1 {
		return unit{number: r, apart: true}
	}
	kind := p.Kind(r)
	return unit{
		number: r,
		apart:  r == '\n' || r == '\r' || kind == api.PControl,
		hangs:  kind == api.PMark || kind == api.PJoiner || p.Class(r) > 0,
		holds:  kind == api.PJoiner,
		hangul: hangulOf(r),
	}
}

// edge tells whether an edge lies between two units that stand side by side.
func edge(a, b unit) bool {
	switch {
	case a.number == '\r' && b.number == '\n':
		return false
	case a.apart || b.apart:
		return true
	case b.hangs || a.holds:
		return false
	}
	return !oneSign(a.hangul, b.hangul)
}
