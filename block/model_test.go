package block_test

import (
	"math"
	"math/rand"
	"testing"

	"honeycomb/api"
	"honeycomb/axis"
	"honeycomb/block"
	"honeycomb/cell"
	"honeycomb/flat"
	"honeycomb/set"
	"honeycomb/table"
)

// cellsOf are the cells of a block whose least point is the origin, as far as the lattice has them.
func cellsOf(l cell.Lattice, x block.Block) set.Set {
	var cells []cell.Cell
	for b := range 8 {
		for a := range 8 {
			for half := range l.Halves() {
				if x[b]>>(2*a+half)&1 == 1 {
					cells = append(cells, at(int64(a), int64(b), half))
				}
			}
		}
	}
	return set.Of(cells...)
}

// blockOf is the block whose least point is there, of all the cells that are in it.
func blockOf(low axis.Point, s set.Set) block.Block {
	var x block.Block
	for _, c := range s {
		a, b := c.At.A-low.A, c.At.B-low.B
		if 0 <= a && a < 8 && 0 <= b && b < 8 {
			x[b] |= 1 << (2*a + int64(c.Half))
		}
	}
	return x
}

// stepped is the next generation of a block, cell by cell, and without those that are born around it.
func stepped(t *testing.T, y table.Table, x block.Block) block.Block {
	t.Helper()
	s, err := flat.Step(y, cellsOf(y.Lattice, x))
	if err != nil {
		t.Fatal(err)
	}
	return blockOf(axis.Point{}, s)
}

// anyBlock is a block of any bits; the more often it is thinned out, the fewer live.
func anyBlock(r *rand.Rand, thinned int) block.Block {
	var x block.Block
	for b := range x {
		x[b] = math.MaxUint16
		for range thinned {
			x[b] &= uint16(r.Uint32())
		}
	}
	return x
}

// neighbourhoods is how many there are, of a lattice's cells.
func neighbourhoods(l cell.Lattice) int {
	return map[cell.Lattice]int{api.Hex: 64, api.Edge: 4, api.Vertex: 13}[l]
}

// anyTable is one that may be.
func anyTable(r *rand.Rand, l cell.Lattice) table.Table {
	t := table.Table{Lattice: l}
	for half := range l.Halves() {
		for n := range neighbourhoods(l) {
			t.Stay[half] |= uint64(r.Intn(2)) << n
			if n > 0 {
				t.Born[half] |= uint64(r.Intn(2)) << n
			}
		}
	}
	return t
}

// singles are all tables of a lattice with one bit, and all without one, that may be.
func singles(l cell.Lattice) []table.Table {
	every := table.Table{Lattice: l}
	var all []table.Table
	for half := range l.Halves() {
		for n := range neighbourhoods(l) {
			stays, born := table.Table{Lattice: l}, table.Table{Lattice: l}
			stays.Stay[half] = 1 << n
			all = append(all, stays)
			every.Stay[half] |= 1 << n
			if n > 0 {
				born.Born[half] = 1 << n
				all = append(all, born)
				every.Born[half] |= 1 << n
			}
		}
	}
	for _, one := range all {
		but := every
		for half := range 2 {
			but.Born[half] &^= one.Born[half]
			but.Stay[half] &^= one.Stay[half]
		}
		all = append(all, but)
	}
	return append(all, every, table.Table{Lattice: l})
}
