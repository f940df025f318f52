package tree

import (
	"cmp"
	"slices"

	"honeycomb/api"
	"honeycomb/arena"
	"honeycomb/axis"
	"honeycomb/set"
	"honeycomb/site"
)

// Build is the root of the least level in which just a set's cells live; ErrRange: one of them isn't inside of any root.
func Build(a *arena.Arena, s set.Set) (uint32, error) {
	// Of no cells it is the box of the origin alone, which is in the least root.
	box, _ := s.Box()
	if !has(api.MaxLevel, box) {
		return 0, api.ErrRange
	}
	b := builder{arena: a}
	return b.build(whole(Level(box)), plots(s))
}

// plot is a leaf, and its least point.
type plot struct {
	low  axis.Point
	leaf site.Leaf
}

// plots are all leaves in which a cell of a set is, in no order.
func plots(s set.Set) []plot {
	var all []plot
	for low, f := range site.Leaves(s) {
		all = append(all, plot{low: low, leaf: f})
	}
	return all
}

// builder makes nodes, and keeps those without cells, by their levels: 0 isn't asked for yet.
// Only those that are wanted are asked for: there may be no room for others.
type builder struct {
	arena *arena.Arena
	empty [api.MaxLevel + 1]uint32
}

// build is the node of a square with these leaves. Square by square, in the order of kids, so that their own order doesn't show in the numbers of nodes.
func (b *builder) build(s square, leaves []plot) (uint32, error) {
	switch {
	case len(leaves) == 0:
		return b.none(s.level)
	case s.level == arena.LeafLevel:
		return b.arena.Leaf(leaves[0].leaf)
	}
	var kids [4]uint32
	for i, part := range s.parted(leaves) {
		kid, err := b.build(s.kid(i), part)
		if err != nil {
			return 0, err
		}
		kids[i] = kid
	}
	return b.arena.Join(kids)
}

// none is the node of a level without cells.
func (b *builder) none(level int) (uint32, error) {
	if b.empty[level] == 0 {
		i, err := b.arena.Empty(level)
		if err != nil {
			return 0, err
		}
		b.empty[level] = i
	}
	return b.empty[level], nil
}

// parted is the leaves in the square of each kid. It brings them into the order of these squares.
func (s square) parted(leaves []plot) [4][]plot {
	slices.SortFunc(leaves, func(x, y plot) int {
		return cmp.Compare(s.toward(x.low), s.toward(y.low))
	})
	var parts [4][]plot
	for i := range parts {
		n := 0
		for n < len(leaves) && s.toward(leaves[n].low) == i {
			n++
		}
		parts[i], leaves = leaves[:n], leaves[n:]
	}
	return parts
}
