package bound_test

import (
	"math/big"
	"math/rand"
	"testing"

	"honeycomb/api"
	"honeycomb/arena"
	"honeycomb/axis"
	"honeycomb/block"
	"honeycomb/cell"
	"honeycomb/life"
	"honeycomb/rule"
	"honeycomb/set"
	"honeycomb/site"
	"honeycomb/square"
	"honeycomb/table"
	"honeycomb/tree"
)

// most is the greatest number that is told.
const most = uint64(1) << 62

// told is a number of any size as it is told.
func told(n *big.Int) uint64 {
	if n.Cmp(new(big.Int).SetUint64(most)) > 0 {
		return most
	}
	return n.Uint64()
}

// product is that of numbers, of any size.
func product(numbers ...uint64) *big.Int {
	p := big.NewInt(1)
	for _, n := range numbers {
		p.Mul(p, new(big.Int).SetUint64(n))
	}
	return p
}

// counted is a number of generations as it counts.
func counted(n int) uint64 {
	switch {
	case n < 0:
		return 0
	case n > 1<<20:
		return 1 << 20
	}
	return uint64(n)
}

// cells is what Cells is to tell, worked out without an end.
func cells(population uint64, n int) *big.Int {
	side := 2*counted(n) + 1
	return product(2, population, side, side)
}

// level is what Level is to tell: the half of a root's side is doubled as long as the point isn't inside.
func level(extent int64, n int) int {
	far := big.NewInt(0)
	switch {
	case extent > 1<<61:
		far.SetUint64(1 << 61)
	case extent > 0:
		far.SetInt64(extent)
	}
	far.Add(far, product(counted(n)))
	level := 3
	for half := big.NewInt(4); level < 44 && far.Cmp(half) >= 0; half.Lsh(half, 1) {
		level++
	}
	return min(level+2, 44)
}

// nodes is what Nodes is to tell, worked out without an end.
func nodes(population uint64, n int, extent int64) *big.Int {
	m := uint64(level(extent, n))
	sum := product(4, m, counted(n)+21)
	sum.Mul(sum, cells(population, n))
	sum.Add(sum, product(population, m))
	return sum.Add(sum, big.NewInt(12000))
}

func at(a, b int64, half int) cell.Cell {
	return cell.Cell{At: axis.Point{A: a, B: b}, Half: half}
}

// some is a set of cells of a lattice at points at most so far away from the origin on either axis.
func some(r *rand.Rand, l cell.Lattice, n int, away int64) set.Set {
	cells := make([]cell.Cell, n)
	for i := range cells {
		cells[i] = at(r.Int63n(2*away+1)-away, r.Int63n(2*away+1)-away, r.Intn(l.Halves()))
	}
	return set.Of(cells...)
}

// anyTable is one that may be.
func anyTable(r *rand.Rand, l cell.Lattice) table.Table {
	numbers := map[cell.Lattice]uint64{api.Hex: 1<<64 - 1, api.Edge: 1<<4 - 1, api.Vertex: 1<<13 - 1}[l]
	x := table.Table{Lattice: l}
	for half := range l.Halves() {
		x.Born[half] = r.Uint64() & numbers &^ 1
		x.Stay[half] = r.Uint64() & numbers
	}
	return x
}

func parsed(t *testing.T, text string) table.Table {
	t.Helper()
	x, err := rule.Parse(text)
	if err != nil {
		t.Fatal(err)
	}
	return x
}

// extent is how far a set's farthest coordinate is from 0.
func extent(s set.Set) int64 {
	far := int64(0)
	for _, c := range s {
		far = max(far, c.At.A, -c.At.A, c.At.B, -c.At.B)
	}
	return far
}

// laid is a life by a table, in an arena of its own with the nodes of a set's root of that level (or of the least one, if that is above), and room for so many more.
func laid(t *testing.T, x table.Table, s set.Set, level int, room uint64) (*life.Life, uint32) {
	t.Helper()
	k, err := block.New(x)
	if err != nil {
		t.Fatal(err)
	}
	a := arena.New(1 << 30)
	root, err := tree.Build(a, s)
	if err != nil {
		t.Fatal(err)
	}
	if root, err = square.Fit(a, root, level); err != nil {
		t.Fatal(err)
	}
	// An arena may have more than that, if it has few nodes: those are taken by others, that no test wants.
	for f := site.Leaf(0xbadc0de0); a.Len() < arena.Least; f++ {
		if _, err := a.Leaf(f); err != nil {
			t.Fatal(err)
		}
	}
	if err := a.SetMost(a.Len() + int(room)); err != nil {
		t.Fatal(err)
	}
	return life.New(a, k), root
}
