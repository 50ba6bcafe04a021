package quad

import (
	"vedette/api"
)

// square: the whole map, or one of the four of a square: how deep it is, and the least code in it.
type square struct {
	depth int
	begin uint32
}

// side is how long s is in both directions.
func (s square) side() int { return api.Size >> s.depth }

// end is the first code behind those of s: its points are one run of codes.
func (s square) end() uint32 { return s.begin + uint32(s.side()*s.side()) }

// rect is the points of s.
func (s square) rect() api.Rect {
	p := place(s.begin)
	return api.Rect{X0: p.X, Y0: p.Y, X1: p.X + s.side(), Y1: p.Y + s.side()}
}

// quarters is the four into which s is split.
func (s square) quarters() [4]square {
	var four [4]square
	part := square{depth: s.depth + 1, begin: s.begin}
	for i := range four {
		four[i] = part
		part.begin = part.end()
	}
	return four
}
