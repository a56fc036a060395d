package normal

import "glossary/props"

// Stream decomposes what comes piece by piece.
type Stream struct {
	p    *props.Props
	rest []classed // what came behind the last point of class 0, as it came
}

// New is a stream to which nothing came.
func New(p *props.Props) *Stream { return &Stream{p: p} }

// Write takes more points; what is settled.
func (s *Stream) Write(l []rune) []rune {
	from := len(s.rest) // Nothing of it is settled but by what comes now.
	s.rest = spread(s.p, s.rest, l)
	settled := 0
	for i := range len(s.rest) - from {
		if s.rest[from+i].class == 0 {
			settled = from + i + 1
		}
	}
	return s.take(settled)
}

// End is what is left.
func (s *Stream) End() []rune { return s.take(len(s.rest)) }

// take takes the first points out of the rest, and puts them in order.
func (s *Stream) take(n int) []rune {
	if n == 0 { // Else what is left would be copied each time.
		return nil
	}
	taken := s.rest[:n]
	s.rest = append([]classed(nil), s.rest[n:]...) // A piece of it would keep what is taken, too.
	order(taken)
	return bare(taken)
}
