package sweep_test

import (
	"math"
	"math/rand"
	"slices"
	"testing"

	"honeycomb/api"
	"honeycomb/arena"
	"honeycomb/axis"
	"honeycomb/cell"
	"honeycomb/set"
	"honeycomb/site"
	"honeycomb/sweep"
	"honeycomb/tree"
)

// The calls have just these signatures.
var (
	_ func(*arena.Arena, ...uint32) (int, error)                    = sweep.Reach
	_ func(*arena.Arena, *arena.Arena, ...uint32) ([]uint32, error) = sweep.Copy
	_ func(*arena.Arena, ...uint32) (*arena.Arena, []uint32, error) = sweep.Collect
)

// reaches holds Reach against that many; the arena stays.
func reaches(t *testing.T, a *arena.Arena, want int, roots ...uint32) {
	t.Helper()
	s := stateOf(a)
	if n, err := sweep.Reach(a, roots...); n != want || err != nil {
		t.Errorf("Reach(%v) = %d, %v, not %d", roots, n, err, want)
	}
	s.stays(t, a)
}

// collected holds what Collect tells against the chapter; the arena stays. It tells the new one, and the roots there.
func collected(t *testing.T, a *arena.Arena, roots ...uint32) (*arena.Arena, []uint32) {
	t.Helper()
	s, list := stateOf(a), slices.Clone(roots)
	b, there, err := sweep.Collect(a, roots...)
	if err != nil || b == nil {
		t.Fatalf("Collect(%v): %v", roots, err)
	}
	s.stays(t, a)
	if !slices.Equal(roots, list) {
		t.Errorf("the roots are %v, not %v", roots, list)
	}
	// Those that the roots reach, and the leaf without cells, and no others.
	all := reached(a, append(list, 0)...)
	if b == a || b.Len() != len(all) || b.Most() != a.Most() {
		t.Fatalf("Collect(%v): %d of %d nodes, not %d of %d", roots, b.Len(), b.Most(), len(all), a.Most())
	}
	if n, err := sweep.Reach(b, append(slices.Clone(there), 0)...); n != b.Len() || err != nil {
		t.Errorf("Collect(%v): the roots reach %d of %d nodes, %v", roots, n, b.Len(), err)
	}
	same(t, a, b, roots, there)
	return b, there
}

// copied holds what Copy tells against the chapter, where there is room; the arena that is copied stays.
func copied(t *testing.T, from, to *arena.Arena, roots ...uint32) []uint32 {
	t.Helper()
	s, ahead, list := stateOf(from), stateOf(to), slices.Clone(roots)
	there, err := sweep.Copy(from, to, roots...)
	if err != nil {
		t.Fatalf("Copy(%v): %v", roots, err)
	}
	if !slices.Equal(roots, list) {
		t.Errorf("the roots are %v, not %v", roots, list)
	}
	s.stays(t, from)
	ahead.isIn(t, to)
	if to.Most() != ahead.most {
		t.Errorf("there may be %d nodes, not %d", to.Most(), ahead.most)
	}
	same(t, from, to, roots, there)
	// Each node that is new is one below the roots there.
	below := reached(to, there...)
	for i := len(ahead.nodes); i < to.Len(); i++ {
		if !slices.Contains(below, uint32(i)) {
			t.Fatalf("Copy(%v): %d is new, and not below %v", roots, i, there)
		}
	}
	return there
}

func TestReach(t *testing.T) {
	a := arena.New(1000)
	l := leaves(t, a, 4)
	root, err := a.Join([4]uint32{l[0], l[1], 0, 0})
	if err != nil {
		t.Fatal(err)
	}
	top, err := a.Join([4]uint32{root, root, root, root})
	if err != nil {
		t.Fatal(err)
	}
	reaches(t, a, 0)
	reaches(t, a, 1, 0)
	reaches(t, a, 1, 0, 0, 0)
	reaches(t, a, 1, l[2])
	reaches(t, a, 2, l[2], l[3], l[2])
	reaches(t, a, 4, root)
	reaches(t, a, 4, root, root, l[0], 0)
	reaches(t, a, 5, root, l[3])
	reaches(t, a, 5, top)
	reaches(t, a, 5, root, top)
	reaches(t, a, 7, l[3], top, l[2])
}

// Of any arena: each node that is there, and any of them together.
func TestReachOfAny(t *testing.T) {
	for seed := range int64(20) {
		r := rand.New(rand.NewSource(seed))
		a := anyArena(t, r, 64+r.Intn(300))
		for i := range a.Len() {
			n, err := sweep.Reach(a, uint32(i))
			if want := len(reached(a, uint32(i))); n != want || err != nil {
				t.Fatalf("Reach(%d) = %d, %v, not %d", i, n, err, want)
			}
		}
		for range 30 {
			roots := anyRoots(r, a)
			reaches(t, a, len(reached(a, roots...)), roots...)
		}
	}
}

// A node that lies in more places than can be gone through is reached once.
func TestReachOfDeepNodes(t *testing.T) {
	a := arena.New(1000)
	root := deep(t, a, 44, math.MaxUint32)
	reaches(t, a, 43, root)
	none, err := a.Empty(44)
	if err != nil {
		t.Fatal(err)
	}
	reaches(t, a, 43, none)
	reaches(t, a, 86, none, root)
	b, there := collected(t, a, root, none, root)
	if b.Len() != 86 || b.Count(there[0]) != arena.MostCount || there[0] != there[2] {
		t.Errorf("%d nodes, %v", b.Len(), there)
	}
	to := arena.New(90)
	copied(t, a, to, none)
	if copied(t, a, to, root); to.Len() != 86 {
		t.Errorf("%d nodes", to.Len())
	}
}

// Example 1 of the chapter.
func TestOfNoRoots(t *testing.T) {
	a := anyArena(t, rand.New(rand.NewSource(30)), 200)
	b, there := collected(t, a)
	if b.Len() != 1 || len(there) != 0 || b.Most() != 200 {
		t.Errorf("%d of %d nodes, %v", b.Len(), b.Most(), there)
	}
	if there := copied(t, a, b); len(there) != 0 || b.Len() != 1 {
		t.Errorf("Copy = %v, %d nodes", there, b.Len())
	}
	reaches(t, a, 0)
	reaches(t, a, 0, []uint32{}...)
	if b, there = collected(t, a, []uint32{}...); b.Len() != 1 || len(there) != 0 {
		t.Errorf("%d nodes, %v", b.Len(), there)
	}
}

// The leaf without cells is 0 everywhere, and always there.
func TestOfNode0(t *testing.T) {
	a := arena.New(100)
	leaves(t, a, 3)
	if b, there := collected(t, a, 0); b.Len() != 1 || !slices.Equal(there, []uint32{0}) {
		t.Errorf("%d nodes, %v", b.Len(), there)
	}
	to := arena.New(64)
	leaves(t, to, 63)
	if there := copied(t, a, to, 0, 0); !slices.Equal(there, []uint32{0, 0}) || to.Len() != 64 {
		t.Errorf("Copy = %v, %d nodes", there, to.Len())
	}
}

// Leaves are nodes like others.
func TestOfLeaves(t *testing.T) {
	a := arena.New(100)
	l := leaves(t, a, 9)
	b, there := collected(t, a, l[7], l[2], 0, l[7])
	if b.Len() != 3 || b.Bits(there[0]) != 0xbadc0de7 || b.Bits(there[1]) != 0xbadc0de2 || there[2] != 0 || there[3] != there[0] {
		t.Errorf("%d nodes, %v", b.Len(), there)
	}
	to := arena.New(100)
	mine := leaves(t, to, 3)
	there = copied(t, a, to, l[8], l[1])
	if to.Len() != 5 || to.Bits(there[0]) != 0xbadc0de8 || there[1] != mine[1] {
		t.Errorf("%d nodes, %v", to.Len(), there)
	}
}

func TestCollectOfAny(t *testing.T) {
	for seed := range int64(30) {
		r := rand.New(rand.NewSource(100 + seed))
		a := anyArena(t, r, 64+r.Intn(200))
		if r.Intn(2) == 0 {
			if err := a.SetMost(a.Len() + r.Intn(1000)); err != nil {
				t.Fatal(err)
			}
		}
		for range 20 {
			b, there := collected(t, a, anyRoots(r, a)...)
			// Once more nothing goes.
			c, _ := collected(t, b, there...)
			if c.Len() != b.Len() {
				t.Errorf("%d nodes, and then %d", b.Len(), c.Len())
			}
		}
		// All nodes that there are: none goes.
		var all []uint32
		for i := range a.Len() {
			all = append(all, uint32(i))
		}
		if b, _ := collected(t, a, all...); b.Len() != a.Len() {
			t.Errorf("of all %d nodes %d are left", a.Len(), b.Len())
		}
	}
}

// Roots that were the same are, and others aren't, also where they differ in a single leaf, in their level alone, or in the order of kids.
func TestRootsThatDiffer(t *testing.T) {
	a := arena.New(10000)
	var roots []uint32
	for level := 2; level <= 44; level++ {
		none, err := a.Empty(level)
		if err != nil {
			t.Fatal(err)
		}
		roots = append(roots, none, deep(t, a, level, 1), none)
	}
	for _, f := range leaves(t, a, 2) {
		for k := range 4 {
			kids := [4]uint32{}
			kids[k] = f
			i, err := a.Join(kids)
			if err != nil {
				t.Fatal(err)
			}
			roots = append(roots, i, roots[0], i)
		}
	}
	collected(t, a, roots...)
}

// The cells of a root are those that they were, and the new arena builds the same root of them.
func TestCells(t *testing.T) {
	r := rand.New(rand.NewSource(40))
	a := arena.New(1 << 16)
	var roots []uint32
	var sets []set.Set
	for range 30 {
		var cells []cell.Cell
		for range r.Intn(30) {
			cells = append(cells, cell.Cell{At: axis.Point{A: r.Int63n(1 << 12), B: -r.Int63n(1 << r.Intn(40))}, Half: r.Intn(2)})
		}
		s := set.Of(cells...)
		root, err := tree.Build(a, s)
		if err != nil {
			t.Fatal(err)
		}
		roots, sets = append(roots, root), append(sets, s)
	}
	b, there := collected(t, a, roots...)
	n := b.Len()
	for i, root := range there {
		got, err := tree.Cells(b, root, 1000)
		again, e := tree.Build(b, sets[i])
		if err != nil || e != nil || !got.Same(sets[i]) || again != root {
			t.Errorf("%v, %v, %v; %d, not %d", got, err, e, again, root)
		}
	}
	if b.Len() != n {
		t.Errorf("%d nodes were made again", b.Len()-n)
	}
}

// Numbers that aren't there: no answer, and nothing changes, where one of them is the first root.
func TestNumbersThatAreNotThere(t *testing.T) {
	r := rand.New(rand.NewSource(50))
	a := anyArena(t, r, 150)
	to := anyArena(t, r, 100)
	s, other := stateOf(a), stateOf(to)
	n := uint32(a.Len())
	for _, bad := range []uint32{n, n + 1, 1 << 30, 1 << 31, math.MaxUint32} {
		for _, roots := range [][]uint32{{bad}, {bad, 0}, {bad, n - 1}, {0, bad}, {bad, bad}, {0, 0, bad, n - 1}} {
			if k, err := sweep.Reach(a, roots...); k != 0 || err != error(api.ErrArg) {
				t.Errorf("Reach(%v) = %d, %v", roots, k, err)
			}
			if l, err := sweep.Copy(a, to, roots...); l != nil || err != error(api.ErrArg) {
				t.Errorf("Copy(%v) = %v, %v", roots, l, err)
			}
			if b, l, err := sweep.Collect(a, roots...); b != nil || l != nil || err != error(api.ErrArg) {
				t.Errorf("Collect(%v) = %v, %v", roots, l, err)
			}
			s.stays(t, a)
			other.stays(t, to)
		}
		for _, roots := range [][]uint32{{n - 1, bad}, {n - 1, n - 2, bad, 0}} {
			if k, err := sweep.Reach(a, roots...); k != 0 || err != error(api.ErrArg) {
				t.Errorf("Reach(%v) = %d, %v", roots, k, err)
			}
			if b, l, err := sweep.Collect(a, roots...); b != nil || l != nil || err != error(api.ErrArg) {
				t.Errorf("Collect(%v) = %v, %v", roots, l, err)
			}
			s.stays(t, a)
		}
	}
}

// Root by root: what is ahead of one that isn't there is in the other arena, or finds no room, ahead of that.
func TestRootByRoot(t *testing.T) {
	a := arena.New(1000)
	root := deep(t, a, 10, 7)
	bad := uint32(a.Len())
	to := arena.New(64)
	if l, err := sweep.Copy(a, to, root, bad, root); l != nil || err != error(api.ErrArg) {
		t.Errorf("Copy = %v, %v", l, err)
	}
	if to.Len() != 10 {
		t.Errorf("%d nodes", to.Len())
	}
	to = arena.New(64)
	leaves(t, to, 60)
	for _, roots := range [][]uint32{{root, bad}, {0, root, bad, bad}} {
		if l, err := sweep.Copy(a, to, roots...); l != nil || err != error(api.ErrBudget) {
			t.Errorf("Copy(%v) = %v, %v", roots, l, err)
		}
	}
	s := stateOf(to)
	if l, err := sweep.Copy(a, to, bad, root); l != nil || err != error(api.ErrArg) {
		t.Errorf("Copy = %v, %v", l, err)
	}
	s.stays(t, to)
}

// An arena that has some of the nodes already, whatever others: those aren't made again.
func TestCopyIntoOneThatHasSome(t *testing.T) {
	for seed := range int64(25) {
		r := rand.New(rand.NewSource(200 + seed))
		from, to := anyArena(t, r, 64+r.Intn(200)), anyArena(t, r, 64+r.Intn(100))
		if err := to.SetMost(100000); err != nil {
			t.Fatal(err)
		}
		for range 10 {
			roots := anyRoots(r, from)
			there := copied(t, from, to, roots...)
			s := stateOf(to)
			if again := copied(t, from, to, roots...); !slices.Equal(again, there) {
				t.Errorf("%v, and then %v", there, again)
			}
			s.stays(t, to)
			// And back: all of it is there.
			here := stateOf(from)
			if back := copied(t, to, from, there...); !slices.Equal(back, roots) {
				t.Errorf("%v come back as %v", roots, back)
			}
			here.stays(t, from)
		}
	}
}

// One arena is both: nothing changes, and there is always room for that.
func TestCopyIntoItself(t *testing.T) {
	for seed := range int64(10) {
		r := rand.New(rand.NewSource(300 + seed))
		a := anyArena(t, r, 150)
		s := stateOf(a)
		for range 20 {
			roots := anyRoots(r, a)
			if there := copied(t, a, a, roots...); !slices.Equal(there, roots) {
				t.Errorf("%v are %v", roots, there)
			}
			s.stays(t, a)
		}
	}
}

// With each amount of room, from none to enough: those that were made stay, they are some of those that are wanted, and with more room the rest is made.
func TestCopyWithLittleRoom(t *testing.T) {
	for seed := range int64(12) {
		r := rand.New(rand.NewSource(400 + seed))
		from := anyArena(t, r, 64+r.Intn(100))
		roots := append(anyRoots(r, from), uint32(from.Len()-1))
		much := arena.New(1000)
		leaves(t, much, 63)
		copied(t, from, much, roots...)
		made := much.Len() - 64
		for room := 0; room <= made; room++ {
			s := stateOf(from)
			to := arena.New(64 + room)
			leaves(t, to, 63)
			ahead := stateOf(to)
			l, err := sweep.Copy(from, to, roots...)
			s.stays(t, from)
			ahead.isIn(t, to)
			if room == made {
				if err != nil || to.Len() != to.Most() {
					t.Fatalf("with just enough room: %v, %d of %d nodes", err, to.Len(), to.Most())
				}
				same(t, from, to, roots, l)
				continue
			}
			if l != nil || err != error(api.ErrBudget) || to.Len() != to.Most() {
				t.Fatalf("with room for %d of %d: %v, %v, %d of %d nodes", room, made, l, err, to.Len(), to.Most())
			}
			stayed := stateOf(to)
			if err := to.SetMost(64 + made); err != nil {
				t.Fatal(err)
			}
			// None was made that isn't wanted: else there would be too little room now.
			copied(t, from, to, roots...)
			stayed.isIn(t, to)
		}
	}
}

// With as many nodes as there may be: what is there is told, and what isn't is ErrBudget.
func TestCopyWithNoRoom(t *testing.T) {
	from, to := arena.New(100), arena.New(64)
	there, not := deep(t, from, 5, 3), deep(t, from, 6, 5)
	mine := deep(t, to, 9, 3)
	for f := site.Leaf(0xbadc0de0); to.Len() < 64; f++ {
		if _, err := to.Leaf(f); err != nil {
			t.Fatal(err)
		}
	}
	s := stateOf(to)
	if l := copied(t, from, to, there, 0); to.Level(l[0]) != 5 || l[0] == mine {
		t.Errorf("Copy = %v", l)
	}
	for _, roots := range [][]uint32{{not}, {there, not}, {not, there}, {0, not, not}} {
		if l, err := sweep.Copy(from, to, roots...); l != nil || err != error(api.ErrBudget) {
			t.Errorf("Copy(%v) = %v, %v", roots, l, err)
		}
		s.stays(t, to)
	}
}

// What is collected is an arena of its own, and so is each list: what changes later doesn't show.
func TestNothingIsShared(t *testing.T) {
	a := arena.New(200)
	root := deep(t, a, 8, 9)
	roots := []uint32{root, 0, root}
	b, there := collected(t, a, roots...)
	want := slices.Clone(there)
	roots[0], roots[1] = 1, 1
	if !slices.Equal(there, want) {
		t.Errorf("%v became %v", want, there)
	}
	s, now := stateOf(a), stateOf(b)
	leaves(t, b, 50)
	if err := b.SetMost(5000); err != nil {
		t.Fatal(err)
	}
	s.stays(t, a)
	now.isIn(t, b)
	now = stateOf(b)
	leaves(t, a, 90)
	if err := a.SetMost(500); err != nil {
		t.Fatal(err)
	}
	now.stays(t, b)
	first, second := copied(t, a, b, root), copied(t, a, b, root)
	first[0] = 77
	if second[0] == 77 {
		t.Error("two answers are one list")
	}
}

// What is collected has all calls of an arena: what was there is found, what wasn't is made, as far as there is room.
func TestCollectedGoesOn(t *testing.T) {
	r := rand.New(rand.NewSource(60))
	a := anyArena(t, r, 300)
	b, there := collected(t, a, 299, 250, 200)
	n := b.Len()
	for _, i := range reached(b, there...) {
		var j uint32
		var err error
		if b.Level(i) == 2 {
			j, err = b.Leaf(b.Bits(i))
		} else {
			j, err = b.Join(b.Kids(i))
		}
		if j != i || err != nil {
			t.Errorf("%d is %d, %v", i, j, err)
		}
	}
	if b.Len() != n {
		t.Errorf("%d nodes, not %d", b.Len(), n)
	}
	leaves(t, b, 300-n)
	if _, err := b.Leaf(1); err != error(api.ErrBudget) || b.Len() != 300 {
		t.Errorf("%d nodes, %v", b.Len(), err)
	}
}

// An arena that New didn't make is as any other.
func TestArenasThatWereNotMade(t *testing.T) {
	a := &arena.Arena{}
	reaches(t, a, 1, 0)
	if _, err := sweep.Reach(a, 1); err != error(api.ErrArg) {
		t.Errorf("Reach: %v", err)
	}
	if b, _ := collected(t, a, 0); b.Len() != 1 || b.Most() != 64 {
		t.Errorf("%d of %d nodes", b.Len(), b.Most())
	}
	from := arena.New(100)
	root := deep(t, from, 20, 6)
	if copied(t, from, a, root); a.Len() != 20 {
		t.Errorf("%d nodes", a.Len())
	}
	collected(t, a, 5)
}

// The same calls, the same numbers.
func TestAlike(t *testing.T) {
	told := func() []uint32 {
		r := rand.New(rand.NewSource(70))
		a := anyArena(t, r, 300)
		to := arena.New(1000)
		var all []uint32
		for range 20 {
			roots := anyRoots(r, a)
			b, there := collected(t, a, roots...)
			all = append(append(all, there...), uint32(b.Len()))
			all = append(append(all, copied(t, a, to, roots...)...), uint32(to.Len()))
		}
		return all
	}
	first := told()
	for range 3 {
		if again := told(); !slices.Equal(again, first) {
			t.Fatalf("%v, and then %v", first, again)
		}
	}
}

// Very many nodes, none of them below two others.
func TestManyNodes(t *testing.T) {
	a := arena.New(1 << 20)
	row := leaves(t, a, 1<<16)
	for len(row) > 1 {
		var above []uint32
		for i := 0; i < len(row); i += 4 {
			n, err := a.Join([4]uint32(row[i : i+4]))
			if err != nil {
				t.Fatal(err)
			}
			above = append(above, n)
		}
		row = above
	}
	if n, err := sweep.Reach(a, row[0]); n != a.Len()-1 || err != nil {
		t.Errorf("Reach = %d, %v", n, err)
	}
	b, there, err := sweep.Collect(a, row[0], row[0])
	if err != nil || b.Len() != a.Len() || len(there) != 2 || b.Count(there[1]) != a.Count(row[0]) {
		t.Errorf("%d nodes, %v, %v", b.Len(), there, err)
	}
}
