package turn_test

import (
	"math/rand"
	"testing"

	"honeycomb/api"
	"honeycomb/arena"
	"honeycomb/axis"
	"honeycomb/cell"
	"honeycomb/set"
	"honeycomb/site"
	"honeycomb/square"
	"honeycomb/tree"
)

func at(a, b int64, half int) cell.Cell {
	return cell.Cell{At: axis.Point{A: a, B: b}, Half: half}
}

// page is how far a good point may be from the origin.
const page = int64(1) << 40

var lattices = []cell.Lattice{api.Hex, api.Edge, api.Vertex}

// halfOf is how far a root of a level goes from the origin, doubled level by level.
func halfOf(level int) int64 {
	half := int64(4)
	for l := 3; l < level; l++ {
		half *= 2
	}
	return half
}

// brought is where an operator brings a cell: a triangle is told by the sum of its corners, which is turned as a point.
func brought(l cell.Lattice, o axis.Operator, c cell.Cell) cell.Cell {
	a, b := c.At.A, c.At.B
	if l != api.Hex {
		a, b = 3*a+1+int64(c.Half), 3*b+1+int64(c.Half)
	}
	if o >= 6 {
		a, b = b, a
	}
	for range o % 6 {
		a, b = -b, a+b
	}
	if l == api.Hex {
		return at(a, b, 0)
	}
	half := (a%3+3)%3 - 1
	return at((a-1-half)/3, (b-1-half)/3, int(half))
}

// turned is a set, each cell brought by an operator.
func turned(l cell.Lattice, o axis.Operator, s set.Set) set.Set {
	var cells []cell.Cell
	for _, c := range s {
		cells = append(cells, brought(l, o, c))
	}
	return set.Of(cells...)
}

// moved is a set, each cell so much further.
func moved(s set.Set, by axis.Point) set.Set {
	var cells []cell.Cell
	for _, c := range s {
		cells = append(cells, at(c.At.A+by.A, c.At.B+by.B, c.Half))
	}
	return set.Of(cells...)
}

// ways are how two sets may be put together: does a cell live that is in the first, or isn't, and in the second?
var ways = map[int]func(first, second bool) bool{
	1: func(first, second bool) bool { return first || second },
	2: func(first, second bool) bool { return first && second },
	3: func(first, second bool) bool { return first && !second },
	4: func(first, second bool) bool { return first != second },
}

// mixed is two sets put together, cell by cell.
func mixed(how int, s, u set.Set) set.Set {
	first, second := map[cell.Cell]bool{}, map[cell.Cell]bool{}
	for _, c := range s {
		first[c] = true
	}
	for _, c := range u {
		second[c] = true
	}
	var cells []cell.Cell
	for _, l := range []set.Set{s, u} {
		for _, c := range l {
			if ways[how](first[c], second[c]) {
				cells = append(cells, c)
			}
		}
	}
	return set.Of(cells...)
}

// some is a set of cells of a lattice at points at most so far away from the origin on either axis.
func some(r *rand.Rand, l cell.Lattice, n int, away int64) set.Set {
	cells := make([]cell.Cell, n)
	for i := range cells {
		cells[i] = at(r.Int63n(2*away+1)-away, r.Int63n(2*away+1)-away, r.Intn(l.Halves()))
	}
	return set.Of(cells...)
}

// edges are cells at the corners of a root's square, in the middles of its sides, and around its middle.
func edges(l cell.Lattice, level int) set.Set {
	h := halfOf(level)
	numbers := []int64{-h, -1, 0, h - 1}
	var cells []cell.Cell
	for i, a := range numbers {
		for j, b := range numbers {
			cells = append(cells, at(a, b, (i+j)%l.Halves()))
		}
	}
	return set.Of(cells...)
}

// anySets are sets of no cell, of one, of few and of many, near and as far as they may be wherever they are brought.
func anySets(r *rand.Rand, l cell.Lattice) []set.Set {
	sets := []set.Set{nil, set.Of(at(0, 0, 0)), set.Of(at(-1, -1, l.Halves()-1)), set.Of(at(0, 0, 0), at(0, 0, l.Halves()-1))}
	for level := 3; level <= 40; level += 1 + level/6 {
		sets = append(sets, edges(l, level))
	}
	for _, away := range []int64{1, 3, 4, 9, 40, 1 << 10, 1 << 20, page/2 - 2} {
		for _, n := range []int{1, 2, 7, 60} {
			sets = append(sets, some(r, l, n, away))
		}
	}
	return sets
}

// answered takes what a call tells, and tells the node, if there is no error.
func answered(t *testing.T) func(i uint32, err error) uint32 {
	return func(i uint32, err error) uint32 {
		t.Helper()
		if err != nil {
			t.Fatal(err)
		}
		return i
	}
}

// built is the root of the least level with a set's cells.
func built(t *testing.T, a *arena.Arena, s set.Set) uint32 {
	t.Helper()
	return answered(t)(tree.Build(a, s))
}

// wide is the root of that level, or of the least one, if that is above.
func wide(t *testing.T, a *arena.Arena, s set.Set, level int) uint32 {
	t.Helper()
	return answered(t)(square.Fit(a, built(t, a, s), level))
}

// is holds what a call told against the root of a set.
func is(t *testing.T, a *arena.Arena, want set.Set) func(i uint32, err error) {
	return func(i uint32, err error) {
		t.Helper()
		if root := built(t, a, want); err != nil || i != root {
			t.Fatalf("root %d of level %d with %d cells, %v; not %d of level %d with %d", i, a.Level(i), a.Count(i), err, root, a.Level(root), len(want))
		}
		if l, err := tree.Cells(a, i, len(want)); err != nil || !l.Same(want) {
			t.Fatalf("%v, %v, not %v", l, err, want)
		}
	}
}

// full is the node of a level all of whose leaves are that one.
func full(t *testing.T, a *arena.Arena, level int, f site.Leaf) uint32 {
	t.Helper()
	i := answered(t)(a.Leaf(f))
	for a.Level(i) < level {
		i = answered(t)(a.Join([4]uint32{i, i, i, i}))
	}
	return i
}

// crowded lets there be as many nodes as an arena has at least, none of which is wanted by a test.
func crowded(t *testing.T, a *arena.Arena) {
	t.Helper()
	for f := site.Leaf(0xbadc0de0); a.Len() < arena.Least; f++ {
		answered(t)(a.Leaf(f))
	}
}

// leave lets there be just so many nodes more.
func leave(t *testing.T, a *arena.Arena, room int) {
	t.Helper()
	crowded(t, a)
	if err := a.SetMost(a.Len() + room); err != nil {
		t.Fatal(err)
	}
}

// unchanged does something, behind which there are as many nodes as ahead, and as many may be.
func unchanged(t *testing.T, a *arena.Arena, do func()) {
	t.Helper()
	len, most := a.Len(), a.Most()
	do()
	if a.Len() != len || a.Most() != most {
		t.Errorf("%d of %d nodes, not %d of %d", a.Len(), a.Most(), len, most)
	}
}

// refused is of a call that tells 0, beside that error.
func refused(t *testing.T, code api.Code) func(i uint32, err error) {
	return func(i uint32, err error) {
		t.Helper()
		if i != 0 || err != error(code) {
			t.Errorf("%d, %v, not %v", i, err, code)
		}
	}
}

// noRoots are leaves, with cells and without, and numbers of no node.
func noRoots(t *testing.T, a *arena.Arena) []uint32 {
	t.Helper()
	f := answered(t)(a.Leaf(0x80000001))
	n := uint32(a.Len())
	return []uint32{0, f, n, n + 1, 1 << 31, 1<<32 - 1}
}
