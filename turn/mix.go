package turn

import (
	"honeycomb/api"
	"honeycomb/arena"
)

// nothing stands for a node without cells of whatever level, where two are put together: it is asked for only where it is wanted as a kid.
const nothing = 0

// mixer puts nodes of one level together, each two of them once: a node may lie in more places than can be gone through.
type mixer struct {
	arena *arena.Arena
	how   int
	known map[[2]uint32]uint32
	empty [api.MaxLevel + 1]uint32 // the nodes without cells, by their levels, once they were asked for
}

// mixed is the node of what two come to, or nothing.
func (m *mixer) mixed(x, y uint32) (uint32, error) {
	if i, ok := m.whole(x, y); ok {
		return i, nil
	}
	if i, ok := m.known[[2]uint32{x, y}]; ok {
		return i, nil
	}
	i, err := m.made(x, y)
	if err != nil {
		return 0, err
	}
	m.known[[2]uint32{x, y}] = i
	return i, nil
}

// whole is one of two as it is, or nothing, where no cell of the other one stands against it: one has no cells, or they are the same; false: neither is so.
func (m *mixer) whole(x, y uint32) (uint32, bool) {
	first, second := m.live(x), m.live(y)
	if first == 1 && second == 1 && x != y {
		return nothing, false
	}
	if put(first, second, m.how) == 0 {
		return nothing, true
	}
	if first == 1 {
		return x, true
	}
	return y, true
}

// live is 1, if a cell lives in a node, or 0.
func (m *mixer) live(i uint32) uint32 {
	return uint32(min(m.arena.Count(i), 1))
}

// made is what two come to, leaf by leaf.
func (m *mixer) made(x, y uint32) (uint32, error) {
	level := m.arena.Level(x)
	if level == arena.LeafLevel {
		return m.arena.Leaf(put(m.arena.Bits(x), m.arena.Bits(y), m.how))
	}
	kids, others := m.arena.Kids(x), m.arena.Kids(y)
	for i := range kids {
		kid, err := m.mixed(kids[i], others[i])
		if err != nil {
			return 0, err
		}
		kids[i] = kid
	}
	if kids == [4]uint32{nothing, nothing, nothing, nothing} {
		return nothing, nil
	}
	return m.joined(level-1, kids)
}

// joined is the node of kids of a level, some of which are nothing.
func (m *mixer) joined(level int, kids [4]uint32) (uint32, error) {
	for i, kid := range kids {
		if kid != nothing {
			continue
		}
		none, err := m.none(level)
		if err != nil {
			return 0, err
		}
		kids[i] = none
	}
	return m.arena.Join(kids)
}

// none is the node of a level without cells.
func (m *mixer) none(level int) (uint32, error) {
	if m.empty[level] == nothing {
		i, err := m.arena.Empty(level)
		if err != nil {
			return 0, err
		}
		m.empty[level] = i
	}
	return m.empty[level], nil
}

// put is which bits live, if these live in the first, and these in the second.
func put[T ~uint32](x, y T, how int) T {
	switch how {
	case Or:
		return x | y
	case Minus:
		y = ^y // in the first alone is: in the first, and where the second is dead
		fallthrough
	case And:
		return x & y
	}
	return x ^ y
}
