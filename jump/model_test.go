package jump_test

import (
	"math/rand"
	"testing"

	"honeycomb/api"
	"honeycomb/arena"
	"honeycomb/axis"
	"honeycomb/block"
	"honeycomb/cell"
	"honeycomb/flat"
	"honeycomb/jump"
	"honeycomb/life"
	"honeycomb/rule"
	"honeycomb/set"
	"honeycomb/site"
	"honeycomb/square"
	"honeycomb/table"
	"honeycomb/tree"
)

func at(a, b int64, half int) cell.Cell {
	return cell.Cell{At: axis.Point{A: a, B: b}, Half: half}
}

// halfOf is how far a root of a level goes from the origin, doubled level by level.
func halfOf(level int) int64 {
	half := int64(4)
	for l := 3; l < level; l++ {
		half *= 2
	}
	return half
}

// leastLevel is that of a root that has a set's cells.
func leastLevel(s set.Set) int {
	level := 3
	for _, c := range s {
		for h := halfOf(level); c.At.A < -h || c.At.A >= h || c.At.B < -h || c.At.B >= h; h *= 2 {
			level++
		}
	}
	return level
}

// moved is a set so much further, which may be beyond MaxCoord.
func moved(s set.Set, a, b int64) set.Set {
	var then set.Set
	for _, c := range s {
		then = append(then, at(c.At.A+a, c.At.B+b, c.Half))
	}
	return then
}

// some is a set of cells of a lattice at points at most so far away from the origin on either axis.
func some(r *rand.Rand, l cell.Lattice, n int, away int64) set.Set {
	cells := make([]cell.Cell, n)
	for i := range cells {
		cells[i] = at(r.Int63n(2*away+1)-away, r.Int63n(2*away+1)-away, r.Intn(l.Halves()))
	}
	return set.Of(cells...)
}

// edges are cells at the corners of a root's square, in the middles of its sides, and around its middle.
func edges(l cell.Lattice, level int) set.Set {
	h := halfOf(level)
	numbers := []int64{-h, -1, 0, h - 1}
	var cells []cell.Cell
	for i, a := range numbers {
		for j, b := range numbers {
			cells = append(cells, at(a, b, (i+j)%l.Halves()))
		}
	}
	return set.Of(cells...)
}

// anySets are sets inside of a root of that level: of no cell, of one, of few and of many, at its edge, around its middle, and anywhere.
func anySets(r *rand.Rand, l cell.Lattice, level int) []set.Set {
	h := halfOf(level)
	all := edges(l, level)
	sets := []set.Set{nil, all}
	for range 3 {
		sets = append(sets, set.Of(all[r.Intn(len(all))]), set.Of(all[r.Intn(len(all))], all[r.Intn(len(all))]))
	}
	for _, away := range []int64{1, h / 2, h - 1} {
		for _, n := range []int{2, 5, 20, 100} {
			sets = append(sets, some(r, l, n, away))
		}
	}
	return sets
}

// anyTable is one that may be.
func anyTable(r *rand.Rand, l cell.Lattice) table.Table {
	numbers := map[cell.Lattice]uint64{api.Hex: 1<<64 - 1, api.Edge: 1<<4 - 1, api.Vertex: 1<<13 - 1}[l]
	x := table.Table{Lattice: l}
	for half := range l.Halves() {
		x.Born[half] = r.Uint64() & numbers &^ 1
		x.Stay[half] = r.Uint64() & numbers
	}
	return x
}

func parsed(t *testing.T, text string) table.Table {
	t.Helper()
	x, err := rule.Parse(text)
	if err != nil {
		t.Fatal(err)
	}
	return x
}

// living is a life by a table, in an arena of its own with much room.
func living(t *testing.T, x table.Table) *life.Life {
	t.Helper()
	k, err := block.New(x)
	if err != nil {
		t.Fatal(err)
	}
	return life.New(arena.New(1<<22), k)
}

// alive is one by a rule.
func alive(t *testing.T, text string) *life.Life {
	t.Helper()
	return living(t, parsed(t, text))
}

// stepped is what becomes of a set by layer 8.
func stepped(t *testing.T, x table.Table, s set.Set, n int) set.Set {
	t.Helper()
	then, err := flat.Steps(x, s, n)
	if err != nil {
		t.Fatal(err)
	}
	return then
}

// answered takes what a call tells, and tells the node, if there is no error.
func answered(t *testing.T) func(i uint32, err error) uint32 {
	return func(i uint32, err error) uint32 {
		t.Helper()
		if err != nil {
			t.Fatal(err)
		}
		return i
	}
}

// built is the root of the least level with a set's cells: what Trim tells of any root that has them.
func built(t *testing.T, a *arena.Arena, s set.Set) uint32 {
	t.Helper()
	return answered(t)(tree.Build(a, s))
}

// wide is the root of that level, or of the least one, if that is above.
func wide(t *testing.T, a *arena.Arena, s set.Set, level int) uint32 {
	t.Helper()
	return answered(t)(square.Fit(a, built(t, a, s), level))
}

// is holds what a call told against the root of a set.
func is(t *testing.T, l *life.Life, want set.Set) func(i uint32, err error) {
	return func(i uint32, err error) {
		t.Helper()
		if root := built(t, l.Arena, want); err != nil || i != root {
			t.Fatalf("%s: root %d of level %d with %d cells, %v; not %d of level %d with %d", rule.Text(l.Kernel().Table()), i, l.Level(i), l.Count(i), err, root, l.Level(root), len(want))
		}
	}
}

// crowded lets there be as many nodes as an arena has at least, none of which is wanted by a test.
func crowded(t *testing.T, a *arena.Arena) {
	t.Helper()
	for f := site.Leaf(0xbadc0de0); a.Len() < arena.Least; f++ {
		if _, err := a.Leaf(f); err != nil {
			t.Fatal(err)
		}
	}
}

// leave lets there be just so many nodes more.
func leave(t *testing.T, a *arena.Arena, room int) {
	t.Helper()
	crowded(t, a)
	if err := a.SetMost(a.Len() + room); err != nil {
		t.Fatal(err)
	}
}

// unchanged does something, behind which there are as many nodes as ahead, and as many may be, and as much is known.
func unchanged(t *testing.T, l *life.Life, do func()) {
	t.Helper()
	len, most, known := l.Len(), l.Most(), l.Known()
	do()
	if l.Len() != len || l.Most() != most || l.Known() != known {
		t.Errorf("%d of %d nodes, %d known; not %d of %d, %d known", l.Len(), l.Most(), l.Known(), len, most, known)
	}
}

// refused is of a call that tells 0, beside that error.
func refused(t *testing.T, code api.Code) func(i uint32, err error) {
	return func(i uint32, err error) {
		t.Helper()
		if i != 0 || err != error(code) {
			t.Errorf("%d, %v, not %v", i, err, code)
		}
	}
}

// none is of Steps: it makes nothing beside that error, and shows nothing.
func none(t *testing.T, l *life.Life, root uint32, code api.Code) {
	t.Helper()
	i, n, err := jump.Steps(l, root, func(root uint32) bool {
		t.Errorf("%d was shown", root)
		return false
	})
	if i != 0 || n != 0 || err != error(code) {
		t.Errorf("Steps = %d, %d, %v, not %v", i, n, err, code)
	}
}

// full is the node of a level all of whose leaves are that one.
func full(t *testing.T, a *arena.Arena, level int, f site.Leaf) uint32 {
	t.Helper()
	i, err := a.Leaf(f)
	for err == nil && a.Level(i) < level {
		i, err = a.Join([4]uint32{i, i, i, i})
	}
	if err != nil {
		t.Fatal(err)
	}
	return i
}

// again is a set that comes again each so many generations, so much further.
type again struct {
	text   string
	cells  set.Set
	period int
	by     axis.Point
}

// after is what lives n generations on: known without making all of them.
func (g again) after(t *testing.T, n int) set.Set {
	t.Helper()
	times := int64(n / g.period)
	return moved(stepped(t, parsed(t, g.text), g.cells, n%g.period), times*g.by.A, times*g.by.B)
}

// comers are such sets of each lattice: they travel, or stay where they are.
func comers() []again {
	return []again{
		{"B2o/S2mH", set.Of(at(4, -7, 0), at(4, -6, 0), at(5, -6, 0), at(5, -5, 0), at(3, -4, 0), at(5, -4, 0), at(3, -3, 0)), 4, axis.Point{A: 2, B: -2}},
		{"B2o/S2mH", set.Of(at(0, -1, 0), at(1, -1, 0), at(2, -1, 0), at(-2, 0, 0), at(-1, 0, 0), at(0, 1, 0), at(1, 1, 0)), 4, axis.Point{B: -2}},
		{"B2o/S2mH", set.Of(at(1, 1, 0), at(0, 2, 0), at(2, 2, 0), at(1, 3, 0), at(-1, 4, 0), at(0, 4, 0), at(-2, 5, 0)), 4, axis.Point{B: 2}},
		{"B4/S456V", set.Of(at(-1, 1, 1), at(0, 1, 0), at(0, 1, 1), at(1, 1, 0), at(-1, 2, 0), at(-1, 2, 1), at(0, 2, 0), at(0, 2, 1)), 3, axis.Point{A: -1}},
		{"B/S012E", set.Of(at(-9, 3, 0), at(2, 2, 1), at(2, 2, 0)), 1, axis.Point{}},
		{"B/S0H", set.Of(at(-9, 3, 0), at(2, 2, 0), at(130, -250, 0)), 1, axis.Point{}},
	}
}

func TestComers(t *testing.T) {
	for _, g := range comers() {
		if then := stepped(t, parsed(t, g.text), g.cells, g.period); !then.Same(moved(g.cells, g.by.A, g.by.B)) {
			t.Errorf("%s: %v doesn't come again", g.text, g.cells)
		}
	}
}
