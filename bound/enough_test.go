package bound_test

import (
	"math/rand"
	"testing"

	"honeycomb/api"
	"honeycomb/bound"
	"honeycomb/cell"
	"honeycomb/flat"
	"honeycomb/jump"
	"honeycomb/rule"
	"honeycomb/set"
	"honeycomb/table"
	"honeycomb/tree"
)

// growing are rules of each lattice by which as many cells as can be are born, and others.
var growing = []string{"B123456/S0123456H", "B1/S2H", "B2/S34H", "B123/S0123E", "B1/S2E", "B12/S2:B2/S3E", "B123456789abc/S0123456789abcV", "B1/S12V", "B3/S:B4/S2V"}

// counts holds how many live against Cells, generation by generation: more generations never lessen that.
func counts(t *testing.T, x table.Table, s set.Set, n int) {
	t.Helper()
	then := s
	for i := range n + 1 {
		if most := bound.Cells(uint64(len(s)), i); uint64(len(then)) > most {
			t.Fatalf("%s: %d generations on %d of %v live, and no more than %d may", rule.Text(x), i, len(then), s, most)
		}
		next, err := flat.Step(x, then)
		if err != nil {
			t.Fatal(err)
		}
		then = next
	}
}

func TestTheLivingAgainstCells(t *testing.T) {
	r := rand.New(rand.NewSource(11))
	for _, text := range growing {
		x := parsed(t, text)
		counts(t, x, nil, 2)
		counts(t, x, set.Of(at(0, 0, 0)), 12)
		counts(t, x, set.Of(at(0, 0, 0), at(0, 0, x.Lattice.Halves()-1)), 12)
		for _, away := range []int64{1, 5, 300} {
			counts(t, x, some(r, x.Lattice, 1+r.Intn(6), away), 6)
		}
	}
	for i := range 60 {
		x := anyTable(r, cell.Lattice(i%3+1))
		counts(t, x, some(r, x.Lattice, 1+r.Intn(5), 1+r.Int63n(20)), 6)
	}
}

// enough jumps in an arena that has room for just Nodes: it is answered, and is what layer 8 says, where that is asked.
func enough(t *testing.T, x table.Table, s set.Set, above, n int, ask bool) {
	t.Helper()
	room := bound.Nodes(uint64(len(s)), n, extent(s))
	l, root := laid(t, x, s, above, room)
	ahead := l.Len()
	i, err := jump.Jump(l, root, n)
	if err != nil {
		t.Fatalf("%s: %v, of level %d, by %d, with room for %d: %v, behind %d nodes", rule.Text(x), s, above, n, room, err, l.Len()-ahead)
	}
	if live := l.Count(i); live > bound.Cells(uint64(len(s)), n) {
		t.Fatalf("%s: %v by %d: %d live", rule.Text(x), s, n, live)
	}
	if !ask {
		return
	}
	want, err := flat.Steps(x, s, n)
	if err != nil {
		t.Fatal(err)
	}
	if then, err := tree.Cells(l.Arena, i, len(want)); err != nil || !then.Same(want) {
		t.Fatalf("%s: %v by %d: %v, %v, not %v", rule.Text(x), s, n, then, err, want)
	}
}

func TestRoomOfNodes(t *testing.T) {
	r := rand.New(rand.NewSource(12))
	for _, text := range growing {
		x := parsed(t, text)
		for _, away := range []int64{1, 4, 60, 1 << 20, 1<<40 - 100} {
			for _, above := range []int{3, 44} {
				for _, cells := range []int{0, 1, 2, 9} {
					n := r.Intn(12)
					enough(t, x, some(r, x.Lattice, cells, away), above, n, true)
					enough(t, x, some(r, x.Lattice, cells, away), above, n/4, true)
				}
			}
		}
	}
}

func TestRoomOfNodesByAnyTables(t *testing.T) {
	r := rand.New(rand.NewSource(13))
	for i := range 150 {
		x := anyTable(r, cell.Lattice(i%3+1))
		for range 4 {
			enough(t, x, some(r, x.Lattice, r.Intn(10), 1+r.Int63n(1<<r.Intn(39))), 3+r.Intn(42), r.Intn(9), true)
		}
	}
}

// Many generations: all bits of n are set, or one.
func TestRoomOfLongJumps(t *testing.T) {
	r := rand.New(rand.NewSource(14))
	for _, text := range []string{"B/S0H", "B2/SH", "B1/S:B/SE", "B/S0123E", "B/S0V"} {
		x := parsed(t, text)
		for _, n := range []int{63, 64, 1000, 1<<16 - 1, 1<<20 - 1, 1 << 20} {
			for _, away := range []int64{1, 1000, 1 << 40} {
				enough(t, x, some(r, x.Lattice, 1+r.Intn(3), away), 3, n, false)
			}
		}
	}
	// What grows all around, as far as it can be gone.
	for _, text := range []string{"B1/SH", "B1/S012E", "B123456789abc/S0123456789abcV"} {
		enough(t, parsed(t, text), set.Of(at(1, -1, 0)), 3, 100, false)
		enough(t, parsed(t, text), set.Of(at(1, -1, 0)), 44, 63, false)
	}
}

// As far from 0 as MaxCoord there is never ErrDepth, whatever grows beyond it, and however long.
func TestNoDepthUpToMaxCoord(t *testing.T) {
	const far = api.MaxCoord
	for _, text := range []string{"B/S0H", "B1/S0H", "B/S0E", "B12/S0V"} {
		x := parsed(t, text)
		for _, s := range []set.Set{
			set.Of(at(far, far, 0)), set.Of(at(-far, -far, 0)), set.Of(at(far, -far, 0), at(-far, far, 0)), set.Of(at(0, 0, 0), at(0, far, 0)),
		} {
			for _, n := range []int{0, 1, 2, 5, 8} {
				enough(t, x, s, 3, n, false)
			}
			if text == "B/S0H" || text == "B/S0E" {
				enough(t, x, s, 3, api.MaxJump-1, false)
				enough(t, x, s, 44, api.MaxJump, false)
			}
		}
	}
}

// With all the room that may be told, that is more than any arena gets to.
func TestRoomOfMost(t *testing.T) {
	s := set.Of(at(0, 0, 0), at(1, 0, 0), at(5, -2, 0))
	l, root := laid(t, parsed(t, "B2/SH"), s, 3, bound.Most)
	if _, err := jump.Jump(l, root, 40); err != nil {
		t.Error(err)
	}
}
