package scan

import "glossary/api"

// place is where a unit of a file stands.
type place struct{ line, col, at int }

// next is the place of the unit at a byte of s; p is that of the unit ahead, or, ahead of the first one, a place whose line is 1.
func (p place) next(s string, at int) place {
	if at > 0 && s[at-1] == '\n' {
		return place{p.line + 1, 1, at}
	}
	return place{p.line, p.col + 1, at}
}

// fault is an error that tells this place.
func (p place) fault(no api.Errno) error {
	return api.Fault{No: no, Line: p.line, At: p.col}
}
