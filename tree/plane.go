package tree

import (
	"honeycomb/axis"
)

// square is where a node lies: its least point, and its level.
type square struct {
	low   axis.Point
	level int
}

// whole is the square of a root.
func whole(level int) square {
	return square{low: axis.Point{A: -Half(level), B: -Half(level)}, level: level}
}

// kid is the square of one of the four kids, in their order.
func (s square) kid(i int) square {
	side := Half(s.level) // half of a root's side is half of any other's of that level, too
	by := axis.Point{A: int64(i%2) * side, B: int64(i/2) * side}
	return square{low: plus(s.low, by), level: s.level - 1}
}

// toward is which kid has a point that is in the square.
func (s square) toward(p axis.Point) int {
	middle := s.kid(3).low
	i := 0
	if p.A >= middle.A {
		i++
	}
	if p.B >= middle.B {
		i += 2
	}
	return i
}

// plus is the sum of two points, which may lie beyond MaxCoord: a root of the greatest level goes further.
func plus(p, q axis.Point) axis.Point {
	return axis.Point{A: p.A + q.A, B: p.B + q.B}
}
