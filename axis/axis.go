// Package axis is layer 1: points of the lattice plane, and the symmetry operators that act on them.
package axis

import (
	"honeycomb/api"
)

// Point is a place, by its two axes.
type Point struct{ A, B int64 }

// circle is how many turns bring everything back to where it was.
const circle = 6

// six is the points around the origin; a turn brings each to the next one.
var six = [circle]Point{{1, 0}, {0, 1}, {-1, 1}, {-1, 0}, {0, -1}, {1, -1}}

// Sum is the sum of two numbers modulo 2^64; false: that isn't their sum, which is beyond 64 bits.
func Sum(a, b int64) (int64, bool) {
	sum := a + b
	// Adding b moves a upwards just if b is above 0; a sum that wraps moves the other way.
	return sum, (sum > a) == (b > 0)
}

// Good: is neither coordinate beyond MaxCoord?
func (p Point) Good() bool {
	return within(p.A) && within(p.B)
}

// within compares with both ends, because the lowest number has no opposite to take the size of.
func within(n int64) bool {
	return -api.MaxCoord <= n && n <= api.MaxCoord
}

// Plus is the sum of two points; ErrRange: one of them, or the sum, isn't good.
func (p Point) Plus(q Point) (Point, error) {
	// Both are asked ahead of the sum: only then is it sure not to wrap.
	if !p.Good() || !q.Good() {
		return Point{}, api.ErrRange
	}
	return goodOnly(Point{A: p.A + q.A, B: p.B + q.B})
}

// goodOnly is the point itself; ErrRange: it isn't good.
func goodOnly(p Point) (Point, error) {
	if !p.Good() {
		return Point{}, api.ErrRange
	}
	return p, nil
}

// Less: is p ahead of q, row by row?
func (p Point) Less(q Point) bool {
	if p.B != q.B {
		return p.B < q.B
	}
	return p.A < q.A
}

// Six is the points around the origin, one behind the other.
func Six() [6]Point {
	return six
}

// Operator is a symmetry that leaves the origin: 0 to 5 so many turns, 6 to 11 a swap, and then so many turns less six.
type Operator int

// Good: is it one of the twelve?
func (o Operator) Good() bool {
	return 0 <= o && o < api.Operators
}

// On is where o brings a point; ErrArg: o isn't good; ErrRange: the point, or where it would be brought, isn't good.
func (o Operator) On(p Point) (Point, error) {
	if !o.Good() {
		return Point{}, api.ErrArg
	}
	if !p.Good() {
		return Point{}, api.ErrRange
	}
	if o.swaps() {
		p = p.swap()
	}
	// A point on the way may lie beyond MaxCoord: only the one at the end counts.
	for range o.turns() {
		p = p.turn()
	}
	return goodOnly(p)
}

// Then is the operator that does what o does, and behind it p.
func (o Operator) Then(p Operator) Operator {
	turns := o.turns()
	if p.swaps() {
		// A turn ahead of a swap is a turn back behind it.
		turns = circle - turns
	}
	return operator(o.swaps() != p.swaps(), turns+p.turns())
}

// Back is the operator that undoes o.
func (o Operator) Back() Operator {
	if o.swaps() {
		// A swap with turns behind it is a mirror, and so undoes itself.
		return o
	}
	return operator(false, circle-o.turns())
}

// operator puts a swap, if there is one, and any number of turns behind it together.
func operator(swaps bool, turns int) Operator {
	o := Operator(turns % circle)
	if swaps {
		o += circle
	}
	return o
}

func (o Operator) swaps() bool {
	return o >= circle
}

func (o Operator) turns() int {
	return int(o) % circle
}

func (p Point) turn() Point {
	return Point{A: -p.B, B: p.A + p.B}
}

func (p Point) swap() Point {
	return Point{A: p.B, B: p.A}
}
