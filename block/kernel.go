package block

import (
	"honeycomb/api"
	"honeycomb/axis"
	"honeycomb/cell"
	"honeycomb/table"
)

// Kernel is a table, and which cells are beside which.
type Kernel struct {
	table  table.Table
	beside [halves][]neighbour
}

// neighbour is one that all cells of a Half have, each at its own point.
type neighbour struct {
	half int   // its Half
	away int   // how many bits its own bit in a plane is above the cell's
	has  plane // the cells whose neighbour is in the block, as far as A tells
}

// most is how many digits a neighbourhood has at most: the bits of a ring.
const most = 6

// New is the kernel of a table; or the error of a table that may not be.
func New(t table.Table) (*Kernel, error) {
	if err := t.Check(); err != nil {
		return nil, err
	}
	k := &Kernel{table: t}
	for half := range t.Lattice.Halves() {
		cells, err := beside(t.Lattice, half)
		if err != nil {
			return nil, err
		}
		for _, c := range cells {
			k.beside[half] = append(k.beside[half], toward(c))
		}
	}
	return k, nil
}

// beside is the cells beside the one of a Half at the origin: of hexagons in the order of their bits in a ring.
func beside(l cell.Lattice, half int) ([]cell.Cell, error) {
	if l != api.Hex {
		return l.Beside(cell.Cell{Half: half})
	}
	var cells []cell.Cell
	for _, p := range axis.Six() {
		cells = append(cells, cell.Cell{At: p})
	}
	return cells, nil
}

// toward is the neighbour that the cell at the origin has there.
func toward(c cell.Cell) neighbour {
	n := neighbour{half: c.Half, away: Side*int(c.At.B) + int(c.At.A)}
	for i := range Side * Side {
		// Beyond the ends of a row the bits are another row's; those above and below all rows fall out by themselves.
		if a := i%Side + int(c.At.A); 0 <= a && a < Side {
			n.has |= 1 << i
		}
	}
	return n
}

// Table is its table.
func (k *Kernel) Table() table.Table {
	return k.table
}

// Step is the next generation, as if all outside were dead.
func (k *Kernel) Step(x Block) Block {
	if x.Empty() {
		return x // nothing is born of nothing
	}
	now := x.planes()
	var then [halves]plane
	for half := range k.table.Lattice.Halves() {
		then[half] = k.next(now, half)
	}
	return together(then)
}

// next is the cells of a Half that live in the next generation.
func (k *Kernel) next(now [halves]plane, half int) plane {
	var room [most]plane
	digits := k.neighbourhoods(now, half, room[:0])
	live := now[half]
	return live&choose(k.table.Stay[half], digits) | ^live&choose(k.table.Born[half], digits)
}

// neighbourhoods are those of all cells of a Half: their digits of base two, the lowest one first.
func (k *Kernel) neighbourhoods(now [halves]plane, half int, digits []plane) []plane {
	for _, n := range k.beside[half] {
		live := n.of(now)
		if k.table.Lattice == api.Hex {
			digits = append(digits, live)
		} else {
			digits = add(digits, live)
		}
	}
	return digits
}

// of is the cells whose neighbour lives.
func (n neighbour) of(now [halves]plane) plane {
	if n.away < 0 {
		return now[n.half] << -n.away & n.has
	}
	return now[n.half] >> n.away & n.has
}

// add counts one more for some cells, in numbers by their digits.
func add(digits []plane, carry plane) []plane {
	for i, d := range digits {
		digits[i], carry = d^carry, d&carry
	}
	if carry != 0 {
		digits = append(digits, carry)
	}
	return digits
}

// choose is the cells whose numbers' bits are 1 in from.
func choose(from uint64, digits []plane) plane {
	if from == 0 {
		return 0
	}
	if len(digits) == 0 {
		return -plane(from & 1)
	}
	rest, highest := digits[:len(digits)-1], digits[len(digits)-1]
	numbers := 1 << len(rest)
	low, high := from&(1<<numbers-1), from>>numbers
	return ^highest&choose(low, rest) | highest&choose(high, rest)
}
