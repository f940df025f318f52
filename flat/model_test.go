package flat_test

import (
	"math/rand"

	"honeycomb/api"
	"honeycomb/axis"
	"honeycomb/cell"
	"honeycomb/set"
	"honeycomb/table"
)

// some is a set of cells of a lattice at points at most so far away from the origin on either axis.
func some(r *rand.Rand, l cell.Lattice, n int, away int64) set.Set {
	cells := make([]cell.Cell, n)
	for i := range cells {
		cells[i] = at(r.Int63n(2*away+1)-away, r.Int63n(2*away+1)-away, r.Intn(l.Halves()))
	}
	return set.Of(cells...)
}

// anyTable is one that may be.
func anyTable(r *rand.Rand, l cell.Lattice) table.Table {
	t := table.Table{Lattice: l}
	for half := range l.Halves() {
		t.Born[half] = r.Uint64() & bitsOf(l) &^ 1
		t.Stay[half] = r.Uint64() & bitsOf(l)
	}
	return t
}

// corners are those of a triangle, as layer 3's chapter lists them.
func corners(c cell.Cell) map[axis.Point]int {
	a, b := c.At.A, c.At.B
	if c.Half == 0 {
		return map[axis.Point]int{{A: a, B: b}: 1, {A: a + 1, B: b}: 1, {A: a, B: b + 1}: 1}
	}
	return map[axis.Point]int{{A: a + 1, B: b}: 1, {A: a, B: b + 1}: 1, {A: a + 1, B: b + 1}: 1}
}

// touch: do two cells stand beside each other, by the chapter's words?
func touch(l cell.Lattice, c, d cell.Cell) bool {
	if l == api.Hex {
		for _, p := range axis.Six() {
			if d.At == (axis.Point{A: c.At.A + p.A, B: c.At.B + p.B}) {
				return true
			}
		}
		return false
	}
	shared, others := 0, corners(d)
	for p := range corners(c) {
		shared += others[p]
	}
	return shared == 2 || l == api.Vertex && shared == 1
}

// near is the cells at most two points away on either axis, wherever that is.
func near(l cell.Lattice, c cell.Cell) []cell.Cell {
	var cells []cell.Cell
	for b := c.At.B - 2; b <= c.At.B+2; b++ {
		for a := c.At.A - 2; a <= c.At.A+2; a++ {
			for half := range l.Halves() {
				cells = append(cells, at(a, b, half))
			}
		}
	}
	return cells
}

// touching are the cells beside one, rising, also those that are beyond MaxCoord.
func touching(l cell.Lattice, c cell.Cell) []cell.Cell {
	var cells []cell.Cell
	for _, d := range near(l, c) {
		if touch(l, c, d) {
			cells = append(cells, d)
		}
	}
	return cells
}

// neighbourhood is that of a cell among those that live, by layer 5's words.
func neighbourhood(l cell.Lattice, c cell.Cell, live map[cell.Cell]struct{}) int {
	n := 0
	if l == api.Hex {
		for i, p := range axis.Six() {
			if _, ok := live[at(c.At.A+p.A, c.At.B+p.B, 0)]; ok {
				n |= 1 << i
			}
		}
		return n
	}
	for _, d := range touching(l, c) {
		if _, ok := live[d]; ok {
			n++
		}
	}
	return n
}

// stepped is the next generation by the chapter's words: every cell near one that lives is asked.
func stepped(t table.Table, s set.Set) set.Set {
	live := map[cell.Cell]struct{}{}
	for _, c := range s {
		live[c] = struct{}{}
	}
	asked := map[cell.Cell]struct{}{}
	var then []cell.Cell
	for _, c := range s {
		for _, d := range near(t.Lattice, c) {
			if _, ok := asked[d]; ok {
				continue
			}
			asked[d] = struct{}{}
			bits := t.Born[d.Half]
			if _, ok := live[d]; ok {
				bits = t.Stay[d.Half]
			}
			if bits>>neighbourhood(t.Lattice, d, live)&1 == 1 {
				then = append(then, d)
			}
		}
	}
	return set.Of(then...)
}
