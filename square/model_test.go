package square_test

import (
	"math/rand"
	"slices"
	"testing"

	"honeycomb/api"
	"honeycomb/arena"
	"honeycomb/axis"
	"honeycomb/cell"
	"honeycomb/set"
	"honeycomb/site"
)

func at(a, b int64, half int) cell.Cell {
	return cell.Cell{At: axis.Point{A: a, B: b}, Half: half}
}

// halfOf is half the side of a node, doubled level by level from the leaf on.
func halfOf(level int) int64 {
	half := int64(2)
	for l := 2; l < level; l++ {
		half *= 2
	}
	return half
}

// within: is a point one of so many on a side from there on?
func within(p, low axis.Point, side int64) bool {
	return low.A <= p.A && p.A-low.A < side && low.B <= p.B && p.B-low.B < side
}

// laid is the root of that level with a set's cells, joined by hand of all that is below it.
func laid(t *testing.T, a *arena.Arena, level int, s set.Set) uint32 {
	t.Helper()
	half := halfOf(level)
	return laidAt(t, a, axis.Point{A: -half, B: -half}, level, s)
}

// laidAt is the node of that level with those of a set's cells that are in the square from there on.
func laidAt(t *testing.T, a *arena.Arena, low axis.Point, level int, s set.Set) uint32 {
	t.Helper()
	half := halfOf(level)
	var in set.Set
	for _, c := range s {
		if within(c.At, low, 2*half) {
			in = append(in, c)
		}
	}
	var i uint32
	var err error
	switch {
	case len(in) == 0:
		i, err = a.Empty(level)
	case level == 2:
		f := site.Leaf(0)
		for _, c := range in {
			f |= 1 << (2*(4*(c.At.B-low.B)+c.At.A-low.A) + int64(c.Half))
		}
		i, err = a.Leaf(f)
	default:
		var kids [4]uint32
		for k, p := range []axis.Point{low, {A: low.A + half, B: low.B}, {A: low.A, B: low.B + half}, {A: low.A + half, B: low.B + half}} {
			kids[k] = laidAt(t, a, p, level-1, in)
		}
		i, err = a.Join(kids)
	}
	if err != nil {
		t.Fatal(err)
	}
	return i
}

// some is a set of cells at points at most so far away from another one on either axis.
func some(r *rand.Rand, n int, from axis.Point, away int64) set.Set {
	cells := make([]cell.Cell, n)
	for i := range cells {
		cells[i] = at(from.A+r.Int63n(2*away+1)-away, from.B+r.Int63n(2*away+1)-away, r.Intn(2))
	}
	return set.Of(cells...)
}

// edges are the cells of a root of that level at its corners, and at those of the squares of half and of a quarter of its side, on both sides of their edges.
func edges(level int) set.Set {
	h := halfOf(level)
	numbers := []int64{-h, -h + 1, -h/2 - 1, -h / 2, -1, 0, h/2 - 1, h / 2, h - 2, h - 1}
	var cells []cell.Cell
	for i, a := range numbers {
		for j, b := range numbers {
			cells = append(cells, at(a, b, (i+j)%2))
		}
	}
	return set.Of(cells...)
}

// anySets are sets inside of a root of that level: none, one cell each, few and many.
func anySets(r *rand.Rand, level int) []set.Set {
	h := halfOf(level)
	sets := []set.Set{nil, edges(level)}
	for _, c := range edges(level) {
		if r.Intn(8) == 0 {
			sets = append(sets, set.Of(c))
		}
	}
	for _, away := range []int64{0, 1, h / 2, h - 1} {
		for _, n := range []int{1, 3, 20} {
			sets = append(sets, some(r, n, axis.Point{}, away))
		}
	}
	return append(sets, some(r, 5, axis.Point{A: -h / 2, B: h / 2}, h/2-1))
}

// leastLevel is that of a root that has a set's cells.
func leastLevel(s set.Set) int {
	for level := 3; ; level++ {
		h := halfOf(level)
		if !slices.ContainsFunc(s, func(c cell.Cell) bool { return !within(c.At, axis.Point{A: -h, B: -h}, 2*h) }) {
			return level
		}
	}
}

// crowded is an arena with that many nodes or more already, none of which is wanted by a test.
func crowded(t *testing.T, a *arena.Arena) *arena.Arena {
	t.Helper()
	for f := site.Leaf(0xbadc0de0); a.Len() < arena.Least; f++ {
		if _, err := a.Leaf(f); err != nil {
			t.Fatal(err)
		}
	}
	return a
}

// leave lets there be just so many nodes more.
func leave(t *testing.T, a *arena.Arena, room int) {
	t.Helper()
	if err := crowded(t, a).SetMost(a.Len() + room); err != nil {
		t.Fatal(err)
	}
}

// asked is a call that tells nodes.
type asked func() ([]uint32, error)

// roomy makes a call in arenas with room for no node more, one more, and so on, until it is answered, and holds the errors ahead of that against the chapter.
// It tells how much room was wanted. An arena is made anew for each, with what the call needs.
func roomy(t *testing.T, most int, prepare func(a *arena.Arena) asked) int {
	t.Helper()
	for room := 0; ; room++ {
		a := arena.New(1 << 20)
		call := prepare(a)
		leave(t, a, room)
		before := a.Len()
		l, err := call()
		if err == nil {
			answeredAgain(t, a, l, call)
			if room > 0 && a.Len() != before+room {
				t.Errorf("%d nodes more, but no fewer than %d would do", a.Len()-before, room)
			}
			return room
		}
		if nonzero(l) || err != error(api.ErrBudget) || a.Len() != a.Most() {
			t.Fatalf("with room for %d: %v, %v, with %d of %d nodes", room, l, err, a.Len(), a.Most())
		}
		if room >= most {
			t.Fatalf("there was room for %d: %v", room, err)
		}
	}
}

// answeredAgain: what is there already needs no room.
func answeredAgain(t *testing.T, a *arena.Arena, l []uint32, call asked) {
	t.Helper()
	leave(t, a, 0)
	before := a.Len()
	if again, err := call(); !slices.Equal(again, l) || err != nil || a.Len() != before {
		t.Errorf("again, without room: %v, %v, not %v", again, err, l)
	}
}

func nonzero(l []uint32) bool {
	return slices.ContainsFunc(l, func(i uint32) bool { return i != 0 })
}

// refused: 0 beside that error, and no node is more or less.
func refused(t *testing.T, a *arena.Arena, code api.Code, call asked) {
	t.Helper()
	before, most := a.Len(), a.Most()
	if l, err := call(); nonzero(l) || err != error(code) {
		t.Errorf("%v, %v, not %v", l, err, code)
	}
	if a.Len() != before || a.Most() != most {
		t.Errorf("%d of %d nodes, not %d of %d", a.Len(), a.Most(), before, most)
	}
}

// one is a call that tells one node.
func one(i uint32, err error) ([]uint32, error) {
	return []uint32{i}, err
}

// nine is a call that tells nine.
func nine(l [9]uint32, err error) ([]uint32, error) {
	return l[:], err
}

// leavesAndNone are leaves, with cells and without, and numbers of no node.
func leavesAndNone(t *testing.T, a *arena.Arena) []uint32 {
	t.Helper()
	f, err := a.Leaf(0x80000001)
	if err != nil {
		t.Fatal(err)
	}
	n := uint32(a.Len())
	return []uint32{0, f, n, n + 1, 1 << 31, 1<<32 - 1}
}

// fullNode is the node of a level all of whose leaves are that one.
func fullNode(t *testing.T, a *arena.Arena, level int, f site.Leaf) uint32 {
	t.Helper()
	i, err := a.Leaf(f)
	for err == nil && a.Level(i) < level {
		i, err = a.Join([4]uint32{i, i, i, i})
	}
	if err != nil {
		t.Fatal(err)
	}
	return i
}

// motley is a node of a level in which no two nodes below are the same, down to that many levels; farther down all are full.
func motley(t *testing.T, a *arena.Arena, level, down int, next *site.Leaf) uint32 {
	t.Helper()
	if down == 0 || level == 2 {
		*next++
		return fullNode(t, a, level, *next)
	}
	var kids [4]uint32
	for k := range kids {
		kids[k] = motley(t, a, level-1, down-1, next)
	}
	i, err := a.Join(kids)
	if err != nil {
		t.Fatal(err)
	}
	return i
}
