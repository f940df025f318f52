package life_test

import (
	"math/rand"
	"testing"

	"honeycomb/api"
	"honeycomb/arena"
	"honeycomb/axis"
	"honeycomb/block"
	"honeycomb/cell"
	"honeycomb/flat"
	"honeycomb/life"
	"honeycomb/rule"
	"honeycomb/set"
	"honeycomb/site"
	"honeycomb/table"
)

func at(a, b int64, half int) cell.Cell {
	return cell.Cell{At: axis.Point{A: a, B: b}, Half: half}
}

// halfOf is half the side of a node, doubled level by level from the leaf on.
func halfOf(level int) int64 {
	half := int64(2)
	for l := 2; l < level; l++ {
		half *= 2
	}
	return half
}

// within: is a point one of so many on a side from there on?
func within(p, low axis.Point, side int64) bool {
	return low.A <= p.A && p.A-low.A < side && low.B <= p.B && p.B-low.B < side
}

// part is those of a set's cells that are in the square of a root of that level.
func part(s set.Set, level int) set.Set {
	half := halfOf(level)
	var in set.Set
	for _, c := range s {
		if within(c.At, axis.Point{A: -half, B: -half}, 2*half) {
			in = append(in, c)
		}
	}
	return in
}

// laid is the root of that level with those of a set's cells that are inside, joined by hand.
func laid(t *testing.T, a *arena.Arena, level int, s set.Set) uint32 {
	t.Helper()
	half := halfOf(level)
	return laidAt(t, a, axis.Point{A: -half, B: -half}, level, s)
}

func laidAt(t *testing.T, a *arena.Arena, low axis.Point, level int, s set.Set) uint32 {
	t.Helper()
	half := halfOf(level)
	var in set.Set
	for _, c := range s {
		if within(c.At, low, 2*half) {
			in = append(in, c)
		}
	}
	var i uint32
	var err error
	switch {
	case len(in) == 0:
		i, err = a.Empty(level)
	case level == 2:
		f := site.Leaf(0)
		for _, c := range in {
			f |= 1 << (2*(4*(c.At.B-low.B)+c.At.A-low.A) + int64(c.Half))
		}
		i, err = a.Leaf(f)
	default:
		var kids [4]uint32
		for k, p := range []axis.Point{low, {A: low.A + half, B: low.B}, {A: low.A, B: low.B + half}, {A: low.A + half, B: low.B + half}} {
			kids[k] = laidAt(t, a, p, level-1, in)
		}
		i, err = a.Join(kids)
	}
	if err != nil {
		t.Fatal(err)
	}
	return i
}

// some is a set of cells of a lattice at points at most so far away from the origin on either axis.
func some(r *rand.Rand, l cell.Lattice, n int, away int64) set.Set {
	cells := make([]cell.Cell, n)
	for i := range cells {
		cells[i] = at(r.Int63n(2*away+1)-away, r.Int63n(2*away+1)-away, r.Intn(l.Halves()))
	}
	return set.Of(cells...)
}

// edges are cells of a root of that level: at its corners and in the middles of its sides, and on both sides of the edges of the square in its middle.
func edges(l cell.Lattice, level int) set.Set {
	h := halfOf(level)
	numbers := []int64{-h, -h/2 - 1, -h / 2, -1, 0, h/2 - 1, h / 2, h - 1}
	var cells []cell.Cell
	for i, a := range numbers {
		for j, b := range numbers {
			cells = append(cells, at(a, b, (i+j)%l.Halves()))
		}
	}
	return set.Of(cells...)
}

// anySets are sets inside of a root of that level: of no cell, and of one, of few and of many of all places and of each kind of place.
func anySets(r *rand.Rand, l cell.Lattice, level int) []set.Set {
	h := halfOf(level)
	all := edges(l, level)
	sets := []set.Set{nil, all}
	for range 4 {
		sets = append(sets, set.Of(all[r.Intn(len(all))]), set.Of(all[r.Intn(len(all))], all[r.Intn(len(all))]))
	}
	for _, away := range []int64{1, h / 2, h - 1} {
		for _, n := range []int{2, 7, int(h * h / 2), int(2 * h * h)} {
			sets = append(sets, some(r, l, min(n, 1500), away))
		}
	}
	return sets
}

// anyTable is one that may be.
func anyTable(r *rand.Rand, l cell.Lattice) table.Table {
	numbers := map[cell.Lattice]uint64{api.Hex: 1<<64 - 1, api.Edge: 1<<4 - 1, api.Vertex: 1<<13 - 1}[l]
	x := table.Table{Lattice: l}
	for half := range l.Halves() {
		x.Born[half] = r.Uint64() & numbers &^ 1
		x.Stay[half] = r.Uint64() & numbers
	}
	return x
}

func parsed(t *testing.T, text string) table.Table {
	t.Helper()
	x, err := rule.Parse(text)
	if err != nil {
		t.Fatal(err)
	}
	return x
}

func kernel(t *testing.T, x table.Table) *block.Kernel {
	t.Helper()
	k, err := block.New(x)
	if err != nil {
		t.Fatal(err)
	}
	return k
}

// alive is a life by that rule, in an arena of its own with much room.
func alive(t *testing.T, text string) *life.Life {
	t.Helper()
	return life.New(arena.New(1<<22), kernel(t, parsed(t, text)))
}

// stepped is what becomes of a set by layer 8.
func stepped(t *testing.T, x table.Table, s set.Set, n int) set.Set {
	t.Helper()
	then, err := flat.Steps(x, s, n)
	if err != nil {
		t.Fatal(err)
	}
	return then
}

// most is how many cells live at most in the square of a root of that level, in any generation up to that one, where only these live now.
func most(t *testing.T, x table.Table, s set.Set, level, exp int) int {
	t.Helper()
	p := len(part(s, level))
	for range 1 << exp {
		s = stepped(t, x, s, 1)
		p = max(p, len(part(s, level)))
	}
	return p
}

// roomOf is the room that the chapter names.
func roomOf(p, level, exp int) int {
	return 4*p*level*(1<<exp+1) + 64
}

// holds asks for the result of the root of a level with a set's cells, and holds it against layer 8 within the square. It tells the answer.
func holds(t *testing.T, l *life.Life, s set.Set, level, exp int) uint32 {
	t.Helper()
	x := l.Kernel().Table()
	root := laid(t, l.Arena, level, s)
	i, err := l.Result(root, exp)
	want := laid(t, l.Arena, level-1, stepped(t, x, part(s, level), 1<<exp))
	if err != nil || l.Level(i) != level-1 || i != want {
		t.Fatalf("%s: Result of %v, of level %d, by %d = %d of level %d, %v, not %d", rule.Text(x), s, level, exp, i, l.Level(i), err, want)
	}
	return i
}

// holdsAll does so for each time, and tells the answers. Layer 8's generations are made once.
func holdsAll(t *testing.T, l *life.Life, s set.Set, level int) []uint32 {
	t.Helper()
	return holdsWith(t, l, part(s, level), s, level)
}

// holdsWith is of the root of a level with the cells of s that are inside, where all of these live that layer 8 is to step.
func holdsWith(t *testing.T, l *life.Life, all, s set.Set, level int) []uint32 {
	t.Helper()
	x := l.Kernel().Table()
	root := laid(t, l.Arena, level, s)
	var results []uint32
	done := 0
	for exp := 0; exp <= level-2; exp++ {
		all, done = stepped(t, x, all, 1<<exp-done), 1<<exp
		i, err := l.Result(root, exp)
		if want := laid(t, l.Arena, level-1, all); err != nil || l.Level(i) != level-1 || i != want {
			t.Fatalf("%s: Result of %v, of level %d, by %d = %d of level %d, %v, not %d", rule.Text(x), s, level, exp, i, l.Level(i), err, want)
		}
		results = append(results, i)
	}
	return results
}

// answered takes what a call tells, and tells the node, if there is no error.
func answered(t *testing.T) func(i uint32, err error) uint32 {
	return func(i uint32, err error) uint32 {
		t.Helper()
		if err != nil {
			t.Fatal(err)
		}
		return i
	}
}

// crowded lets there be as many nodes as an arena has at least, none of which is wanted by a test.
func crowded(t *testing.T, a *arena.Arena) *arena.Arena {
	t.Helper()
	for f := site.Leaf(0xbadc0de0); a.Len() < arena.Least; f++ {
		if _, err := a.Leaf(f); err != nil {
			t.Fatal(err)
		}
	}
	return a
}

// leave lets there be just so many nodes more.
func leave(t *testing.T, a *arena.Arena, room int) {
	t.Helper()
	if err := crowded(t, a).SetMost(a.Len() + room); err != nil {
		t.Fatal(err)
	}
}

// refused: 0 beside that error; no more is known, and there are no more nodes, but for ErrBudget, where there are as many as there may be.
func refused(t *testing.T, l *life.Life, code api.Code, i uint32, exp int) {
	t.Helper()
	len, most, known := l.Len(), l.Most(), l.Known()
	if j, err := l.Result(i, exp); j != 0 || err != error(code) {
		t.Errorf("Result(%d, %d) = %d, %v, not %v", i, exp, j, err, code)
	}
	if code == api.ErrBudget {
		len = most
	}
	if l.Len() != len || l.Most() != most || l.Known() != known {
		t.Errorf("%d of %d nodes, %d known; not %d of %d, %d known", l.Len(), l.Most(), l.Known(), len, most, known)
	}
}

// fullNode is the node of a level all of whose leaves are that one.
func fullNode(t *testing.T, a *arena.Arena, level int, f site.Leaf) uint32 {
	t.Helper()
	i, err := a.Leaf(f)
	for err == nil && a.Level(i) < level {
		i, err = a.Join([4]uint32{i, i, i, i})
	}
	if err != nil {
		t.Fatal(err)
	}
	return i
}
