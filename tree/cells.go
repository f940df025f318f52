package tree

import (
	"honeycomb/api"
	"honeycomb/arena"
	"honeycomb/axis"
	"honeycomb/cell"
	"honeycomb/set"
	"honeycomb/site"
)

// Cells is the set of all that live in a root; ErrArg: it is none; ErrBig: there are more than so many.
func Cells(a *arena.Arena, root uint32, most int) (set.Set, error) {
	if !isRoot(a, root) {
		return nil, api.ErrArg
	}
	if most < 0 || a.Count(root) > uint64(most) {
		return nil, api.ErrBig
	}
	var live []cell.Cell
	walk(a, root, whole(a.Level(root)), func(low axis.Point, f site.Leaf) {
		live = append(live, f.Cells(low)...)
	})
	return set.Of(live...), nil
}

// walk lets see have all leaves of a node of that square in which a cell lives, with their least points.
func walk(a *arena.Arena, at uint32, s square, see func(low axis.Point, f site.Leaf)) {
	if a.Count(at) == 0 {
		return
	}
	if s.level == arena.LeafLevel {
		see(s.low, a.Bits(at))
		return
	}
	for i, kid := range a.Kids(at) {
		walk(a, kid, s.kid(i), see)
	}
}

// Box is that of all cells that live in a root; false: it is none, or no cell lives.
func Box(a *arena.Arena, root uint32) (set.Box, bool) {
	if !isRoot(a, root) || a.Count(root) == 0 {
		return set.Box{}, false
	}
	b := boxes{arena: a, known: map[uint32]set.Box{}}
	return shifted(b.of(root), whole(a.Level(root)).low), true
}

// boxes are those of nodes, each as if its least point were the origin.
// They are kept, because a node may lie in more places than can be gone through.
type boxes struct {
	arena *arena.Arena
	known map[uint32]set.Box
}

// of is the box of a node in which a cell lives.
func (b boxes) of(at uint32) set.Box {
	box, ok := b.known[at]
	if !ok {
		box, _ = set.Of(b.corners(at)...).Box()
		b.known[at] = box
	}
	return box
}

// corners are cells of a node that have its box, if not all of its own: those of a leaf, or those at the corners of its kids' boxes.
func (b boxes) corners(at uint32) []cell.Cell {
	s := square{level: b.arena.Level(at)}
	if s.level == arena.LeafLevel {
		return b.arena.Bits(at).Cells(s.low)
	}
	var corners []cell.Cell
	for i, kid := range b.arena.Kids(at) {
		if b.arena.Count(kid) > 0 {
			box := shifted(b.of(kid), s.kid(i).low)
			corners = append(corners, cell.Cell{At: box.Low}, cell.Cell{At: box.High})
		}
	}
	return corners
}

// shifted is a box so much further.
func shifted(b set.Box, by axis.Point) set.Box {
	return set.Box{Low: plus(b.Low, by), High: plus(b.High, by)}
}
