package tree_test

import (
	"math/rand"
	"slices"
	"testing"

	"honeycomb/api"
	"honeycomb/arena"
	"honeycomb/axis"
	"honeycomb/cell"
	"honeycomb/set"
	"honeycomb/site"
)

func at(a, b int64, half int) cell.Cell {
	return cell.Cell{At: axis.Point{A: a, B: b}, Half: half}
}

// halfOf is half the side of a root, doubled level by level from the leaf on.
func halfOf(level int) int64 {
	half := int64(2)
	for l := 2; l < level; l++ {
		half *= 2
	}
	return half
}

// within: is a point one of so many on a side from there on?
func within(p, low axis.Point, side int64) bool {
	return low.A <= p.A && p.A-low.A < side && low.B <= p.B && p.B-low.B < side
}

// laid is the root of that level with a set's cells, joined by hand of all that is below it.
func laid(t *testing.T, a *arena.Arena, level int, s set.Set) uint32 {
	t.Helper()
	half := halfOf(level)
	return laidAt(t, a, axis.Point{A: -half, B: -half}, level, s)
}

func laidAt(t *testing.T, a *arena.Arena, low axis.Point, level int, s set.Set) uint32 {
	t.Helper()
	var i uint32
	var err error
	switch {
	case len(s) == 0:
		i, err = a.Empty(level)
	case level == 2:
		f := site.Leaf(0)
		for _, c := range s {
			f |= 1 << (2*(4*(c.At.B-low.B)+c.At.A-low.A) + int64(c.Half))
		}
		i, err = a.Leaf(f)
	default:
		half := halfOf(level)
		var kids [4]uint32
		for k, p := range []axis.Point{low, {A: low.A + half, B: low.B}, {A: low.A, B: low.B + half}, {A: low.A + half, B: low.B + half}} {
			var part set.Set
			for _, c := range s {
				if within(c.At, p, half) {
					part = append(part, c)
				}
			}
			kids[k] = laidAt(t, a, p, level-1, part)
		}
		i, err = a.Join(kids)
	}
	if err != nil {
		t.Fatal(err)
	}
	return i
}

// some is a set of cells at points at most so far away from another one on either axis.
func some(r *rand.Rand, halves, n int, from axis.Point, away int64) set.Set {
	cells := make([]cell.Cell, n)
	for i := range cells {
		cells[i] = at(from.A+r.Int63n(2*away+1)-away, from.B+r.Int63n(2*away+1)-away, r.Intn(halves))
	}
	return set.Of(cells...)
}

// corners are the cells at the four corners of a root, and those at the origin's four points.
func corners(level, half int) set.Set {
	h := halfOf(level)
	return set.Of(at(-h, -h, half), at(h-1, -h, half), at(-h, h-1, half), at(h-1, h-1, half),
		at(-1, -1, half), at(0, -1, half), at(-1, 0, half), at(0, 0, half))
}

// anySets are some without cells, with one, few and many, near and far, all of them inside of a root of MaxLevel.
func anySets(r *rand.Rand) []set.Set {
	const far = 1 << 43
	sets := []set.Set{nil, set.Of(at(0, 0, 0)), set.Of(at(-1, -1, 1)), set.Of(at(0, 0, 0), at(0, 0, 1))}
	for level := 3; level <= 44; level++ {
		sets = append(sets, corners(level, level%2))
		h := halfOf(level)
		for _, c := range corners(level, 0) {
			sets = append(sets, set.Of(c), set.Of(c, at(-h, h-1, 1)))
		}
	}
	for _, away := range []int64{1, 3, 9, 40, 1 << 10, 1 << 20, 1 << 40, far - 1} {
		for _, n := range []int{1, 2, 7, 60} {
			sets = append(sets, some(r, 2, n, axis.Point{}, away), some(r, 1, n, axis.Point{A: 1 - far + away, B: far - 1 - away}, away))
		}
	}
	return sets
}

// leastLevel is that of a root that has a set's cells.
func leastLevel(s set.Set) int {
	for level := 3; ; level++ {
		h := halfOf(level)
		if !slices.ContainsFunc(s, func(c cell.Cell) bool { return !within(c.At, axis.Point{A: -h, B: -h}, 2*h) }) {
			return level
		}
	}
}

// under are all nodes at and below one, each once.
func under(a *arena.Arena, roots ...uint32) map[uint32]struct{} {
	seen := map[uint32]struct{}{}
	for len(roots) > 0 {
		i := roots[0]
		roots = roots[1:]
		if _, ok := seen[i]; ok {
			continue
		}
		seen[i] = struct{}{}
		if a.Level(i) > 2 {
			kids := a.Kids(i)
			roots = append(roots, kids[:]...)
		}
	}
	return seen
}

// crowded is an arena with that many nodes or more already, none of which is wanted by a test: then it may have just that many.
func crowded(t *testing.T, a *arena.Arena) *arena.Arena {
	t.Helper()
	for f := site.Leaf(0xbadc0de0); a.Len() < arena.Least; f++ {
		if _, err := a.Leaf(f); err != nil {
			t.Fatal(err)
		}
	}
	return a
}

// leave lets there be just so many nodes more.
func leave(t *testing.T, a *arena.Arena, room int) {
	t.Helper()
	if err := crowded(t, a).SetMost(a.Len() + room); err != nil {
		t.Fatal(err)
	}
}

// roomy makes a call in arenas with room for no node more, one more, and so on, until it is answered, and holds the errors ahead of that against the chapter.
// It tells how much room was wanted. An arena is made anew for each, with what the call needs.
func roomy(t *testing.T, most int, prepare func(a *arena.Arena) func() (uint32, error)) int {
	t.Helper()
	for room := 0; ; room++ {
		a := arena.New(1 << 20)
		call := prepare(a)
		leave(t, a, room)
		before := a.Len()
		i, err := call()
		if err == nil {
			answeredAgain(t, a, i, call)
			if room > 0 && a.Len() != before+room {
				t.Errorf("%d nodes more, but no fewer than %d would do", a.Len()-before, room)
			}
			return room
		}
		if i != 0 || err != error(api.ErrBudget) || a.Len() != a.Most() {
			t.Fatalf("with room for %d: %d, %v, with %d of %d nodes", room, i, err, a.Len(), a.Most())
		}
		if room >= most {
			t.Fatalf("there was room for %d: %v", room, err)
		}
	}
}

// answeredAgain: what is there already needs no room.
func answeredAgain(t *testing.T, a *arena.Arena, i uint32, call func() (uint32, error)) {
	t.Helper()
	leave(t, a, 0)
	before := a.Len()
	if j, err := call(); j != i || err != nil || a.Len() != before {
		t.Errorf("again, without room: %d, %v, not %d", j, err, i)
	}
}

// refused: 0 beside that error, and no node is more or less.
func refused(t *testing.T, a *arena.Arena, code api.Code, call func() (uint32, error)) {
	t.Helper()
	before, most := a.Len(), a.Most()
	if i, err := call(); i != 0 || err != error(code) {
		t.Errorf("%d, %v, not %v", i, err, code)
	}
	if a.Len() != before || a.Most() != most {
		t.Errorf("%d of %d nodes, not %d of %d", a.Len(), a.Most(), before, most)
	}
}

// noRoots are leaves, with cells and without, and numbers of no node.
func noRoots(t *testing.T, a *arena.Arena) []uint32 {
	t.Helper()
	f, err := a.Leaf(0x80000001)
	if err != nil {
		t.Fatal(err)
	}
	n := uint32(a.Len())
	return []uint32{0, f, n, n + 1, 1 << 31, 1<<32 - 1}
}

// fullRoot is the root of a level all of whose cells live.
func fullRoot(t *testing.T, a *arena.Arena, level int) uint32 {
	t.Helper()
	i, err := a.Leaf(1<<32 - 1)
	for err == nil && a.Level(i) < level {
		i, err = a.Join([4]uint32{i, i, i, i})
	}
	if err != nil {
		t.Fatal(err)
	}
	return i
}
