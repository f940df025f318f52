package life

import (
	"honeycomb/site"
	"honeycomb/square"
	"honeycomb/tree"
)

// made is a result that isn't known. It takes two strides: what becomes of nine squares that overlap, and what becomes of the four that lie around these nine's corners.
func (l *Life) made(q question) (uint32, error) {
	level := l.Level(q.at)
	switch {
	case l.Count(q.at) == 0:
		return l.Empty(level - 1) // nothing is born of nothing
	case level == tree.Least:
		return l.Leaf(l.leaves.Result(square.Leaves(l.Arena, q.at), 1<<q.exp))
	case level == tree.Least+1:
		return l.madeOfLeaves(q)
	}
	return l.madeOfNodes(q)
}

// strides is how far the first stride goes, as an exp, and whether the second one goes as far again.
// Only where a node tells no more than is asked both must go half the way; else the second one takes the middles as they are.
func (l *Life) strides(q question) (exp uint32, second bool) {
	if int(q.exp) == furthest(l.Level(q.at)) {
		return q.exp - 1, true
	}
	return q.exp, false
}

// madeOfNodes is the result of a node whose kids' kids are no leaves.
func (l *Life) madeOfNodes(q question) (uint32, error) {
	exp, second := l.strides(q)
	nine, err := square.Nine(l.Arena, q.at)
	if err != nil {
		return 0, err
	}
	for i, at := range nine {
		if nine[i], err = l.result(question{at: at, exp: exp}); err != nil {
			return 0, err
		}
	}
	var kids [4]uint32
	for i := range kids {
		four := corner(nine[:], 3, i%2, i/2)
		if second {
			kids[i], err = l.joined(four, exp)
		} else {
			kids[i], err = l.Join(l.inner(four))
		}
		if err != nil {
			return 0, err
		}
	}
	return l.Join(kids)
}

// joined is the result of the node of these four.
func (l *Life) joined(four [4]uint32, exp uint32) (uint32, error) {
	at, err := l.Join(four)
	if err != nil {
		return 0, err
	}
	return l.result(question{at: at, exp: exp})
}

// inner are the four kids around the middle of four nodes, which aren't joined for it: that node would be wanted for nothing else, and there may be no room.
func (l *Life) inner(four [4]uint32) [4]uint32 {
	for i, at := range four {
		four[i] = l.Kids(at)[3-i]
	}
	return four
}

// madeOfLeaves is the result of a node of sixteen leaves. Nothing between them and the answer is put into the arena: these would be most of all nodes.
func (l *Life) madeOfLeaves(q question) (uint32, error) {
	exp, second := l.strides(q)
	sixteen := l.sixteen(q.at)
	first, then := 1<<exp, 0
	if second {
		then = first
	}
	var nine [9]site.Leaf
	for i := range nine {
		nine[i] = l.leaves.Result(corner(sixteen[:], 4, i%3, i/3), first)
	}
	var kids [4]uint32
	for i := range kids {
		f := l.leaves.Result(corner(nine[:], 3, i%2, i/2), then)
		kid, err := l.Leaf(f)
		if err != nil {
			return 0, err
		}
		kids[i] = kid
	}
	return l.Join(kids)
}

// sixteen are the leaves of a node whose kids' kids they are, four rows of four.
func (l *Life) sixteen(at uint32) [16]site.Leaf {
	var leaves [16]site.Leaf
	for i, kid := range l.Kids(at) {
		for j, f := range square.Leaves(l.Arena, kid) {
			leaves[4*(i/2*2+j/2)+i%2*2+j%2] = f
		}
	}
	return leaves
}

// corner are the four squares around one corner, in the order of kids, the first of them the a-th of the b-th row; the rows are of so many.
func corner[T any](rows []T, side, a, b int) [4]T {
	i := side*b + a
	return [4]T{rows[i], rows[i+1], rows[i+side], rows[i+side+1]}
}
