package iso_test

import (
	"math"
	"math/rand"
	"slices"
	"testing"

	"honeycomb/api"
	"honeycomb/axis"
	"honeycomb/cell"
	"honeycomb/set"
	"honeycomb/table"
)

// bitsOf are those of all neighbourhoods of a lattice.
func bitsOf(l cell.Lattice) uint64 {
	switch l {
	case api.Hex:
		return math.MaxUint64
	case api.Edge:
		return 1<<4 - 1
	}
	return 1<<13 - 1
}

// anyTable is one that may be.
func anyTable(r *rand.Rand, l cell.Lattice) table.Table {
	t := table.Table{Lattice: l}
	for half := range l.Halves() {
		t.Born[half] = r.Uint64() & bitsOf(l) &^ 1
		t.Stay[half] = r.Uint64() & bitsOf(l)
	}
	return t
}

// some is a set around the origin, of few cells or of nearly all.
func some(r *rand.Rand, l cell.Lattice) set.Set {
	part := r.Intn(10) + 1
	var cells []cell.Cell
	for i := range 81 * l.Halves() {
		if r.Intn(11) < part {
			cells = append(cells, cell.Cell{At: axis.Point{A: int64(i%9) - 4, B: int64(i/9%9) - 4}, Half: i / 81})
		}
	}
	return set.Of(cells...)
}

// isGroup: is 0 there, what undoes each, and what any two do one behind the other?
func isGroup(all []axis.Operator) bool {
	if !slices.Contains(all, 0) {
		return false
	}
	for _, o := range all {
		if !slices.Contains(all, o.Back()) {
			return false
		}
		for _, p := range all {
			if !slices.Contains(all, o.Then(p)) {
				return false
			}
		}
	}
	return true
}

// groups are all groups of operators, each rising.
func groups() [][]axis.Operator {
	var all [][]axis.Operator
	for chosen := range 1 << api.Operators {
		var some []axis.Operator
		for o := range axis.Operator(api.Operators) {
			if chosen>>o&1 == 1 {
				some = append(some, o)
			}
		}
		if isGroup(some) {
			all = append(all, some)
		}
	}
	return all
}

// evened is a table of Hex in which rings that an operator of a group brings to each other have the same: that of the lowest.
func evened(t *testing.T, x table.Table, group []axis.Operator) table.Table {
	t.Helper()
	y := table.Table{Lattice: api.Hex}
	for ring := range 64 {
		lowest := ring
		for _, o := range group {
			lowest = min(lowest, brought(t, o, ring))
		}
		y.Born[0] |= x.Born[0] >> lowest & 1 << ring
		y.Stay[0] |= x.Stay[0] >> lowest & 1 << ring
	}
	return y
}

// brought is a ring whose neighbours an operator has brought elsewhere.
func brought(t *testing.T, o axis.Operator, ring int) int {
	t.Helper()
	six, other := axis.Six(), 0
	for i, p := range six {
		q, err := o.On(p)
		if err != nil {
			t.Fatal(err)
		}
		other |= ring >> i & 1 << slices.Index(six[:], q)
	}
	return other
}

func TestSixteenGroups(t *testing.T) {
	if n := len(groups()); n != 16 {
		t.Errorf("%d groups", n)
	}
}
