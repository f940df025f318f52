package sweep_test

import (
	"math/rand"
	"slices"
	"testing"

	"honeycomb/api"
	"honeycomb/arena"
	"honeycomb/site"
)

// node is all that an arena tells of one.
type node struct {
	level int
	bits  site.Leaf
	kids  [4]uint32
	count uint64
}

func nodeOf(a *arena.Arena, i uint32) node {
	return node{a.Level(i), a.Bits(i), a.Kids(i), a.Count(i)}
}

// state is all that an arena tells.
type state struct {
	most  int
	nodes []node
}

func stateOf(a *arena.Arena) state {
	s := state{most: a.Most()}
	for i := range a.Len() {
		s.nodes = append(s.nodes, nodeOf(a, uint32(i)))
	}
	return s
}

// stays holds an arena against what it told ahead: just that.
func (s state) stays(t *testing.T, a *arena.Arena) {
	t.Helper()
	if now := stateOf(a); now.most != s.most || !slices.Equal(now.nodes, s.nodes) {
		t.Fatalf("%d of %d nodes, ahead %d of %d, or others", len(now.nodes), now.most, len(s.nodes), s.most)
	}
}

// isIn: are all nodes that it told still the same ones?
func (s state) isIn(t *testing.T, a *arena.Arena) {
	t.Helper()
	if now := stateOf(a); len(now.nodes) < len(s.nodes) || !slices.Equal(now.nodes[:len(s.nodes)], s.nodes) {
		t.Fatalf("%d nodes, ahead %d, or others", len(now.nodes), len(s.nodes))
	}
}

// reached are the numbers of some nodes and of all below them, rising: level by level, from those at the top down.
func reached(a *arena.Arena, roots ...uint32) []uint32 {
	all := slices.Clone(roots)
	for level := api.MaxLevel; level > 2; level-- {
		for _, i := range all {
			if a.Level(i) == level {
				kids := a.Kids(i)
				all = append(all, kids[:]...)
			}
		}
		slices.Sort(all)
		all = slices.Compact(all)
	}
	slices.Sort(all)
	return slices.Compact(all)
}

// pair is a node of one arena, and one of another.
type pair struct {
	here, there uint32
}

// alike: do the same leaves lie in the same places below both?
func alike(a, b *arena.Arena, p pair, seen map[pair]struct{}) bool {
	if _, ok := seen[p]; ok {
		return true // or else it is told elsewhere
	}
	seen[p] = struct{}{}
	x, y := nodeOf(a, p.here), nodeOf(b, p.there)
	if x.level != y.level || x.bits != y.bits || x.count != y.count {
		return false
	}
	for k := range 4 {
		if x.level > 2 && !alike(a, b, pair{x.kids[k], y.kids[k]}, seen) {
			return false
		}
	}
	return true
}

// same holds nodes of one arena against those of another: each is alike, and two are one just where they are one there.
func same(t *testing.T, a, b *arena.Arena, here, there []uint32) {
	t.Helper()
	if len(here) != len(there) {
		t.Fatalf("%v are told of %v", there, here)
	}
	for i := range here {
		if !alike(a, b, pair{here[i], there[i]}, map[pair]struct{}{}) {
			t.Fatalf("the %d-th of %v isn't that of %v", i, there, here)
		}
		for j := range here {
			if (here[i] == here[j]) != (there[i] == there[j]) {
				t.Fatalf("of %v come %v", here, there)
			}
		}
	}
}

// anyArena has so many nodes of all levels, any four of one level joined, and those made first joined most often.
func anyArena(t *testing.T, r *rand.Rand, n int) *arena.Arena {
	t.Helper()
	a := arena.New(n)
	levels := [45][]uint32{2: {0}}
	for a.Len() < n {
		var i uint32
		var err error
		if level := 2 + r.Intn(44); level == 2 || len(levels[level-1]) == 0 {
			i, err = a.Leaf(site.Leaf(r.Uint32()))
		} else {
			var kids [4]uint32
			for k := range kids {
				below := levels[level-1]
				kids[k] = below[r.Intn(1+r.Intn(len(below)))]
			}
			i, err = a.Join(kids)
		}
		if err != nil {
			t.Fatal(err)
		}
		levels[a.Level(i)] = append(levels[a.Level(i)], i)
	}
	return a
}

// anyRoots are nodes of an arena, now and then one twice.
func anyRoots(r *rand.Rand, a *arena.Arena) []uint32 {
	var roots []uint32
	for range r.Intn(6) {
		roots = append(roots, uint32(r.Intn(a.Len())))
		if r.Intn(3) == 0 {
			roots = append(roots, roots[r.Intn(len(roots))])
		}
	}
	return roots
}

// deep is the node of a level all of whose leaves are that one: it lies in more places than can be gone through.
func deep(t *testing.T, a *arena.Arena, level int, f site.Leaf) uint32 {
	t.Helper()
	i, err := a.Leaf(f)
	for err == nil && a.Level(i) < level {
		i, err = a.Join([4]uint32{i, i, i, i})
	}
	if err != nil {
		t.Fatal(err)
	}
	return i
}

// leaves are so many different leaves.
func leaves(t *testing.T, a *arena.Arena, n int) []uint32 {
	t.Helper()
	var all []uint32
	for f := range n {
		i, err := a.Leaf(site.Leaf(0xbadc0de0 + f))
		if err != nil {
			t.Fatal(err)
		}
		all = append(all, i)
	}
	return all
}
