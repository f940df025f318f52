package square_test

import (
	"math"
	"math/rand"
	"slices"
	"testing"

	"honeycomb/api"
	"honeycomb/arena"
	"honeycomb/axis"
	"honeycomb/set"
	"honeycomb/site"
	"honeycomb/square"
	"honeycomb/tree"
)

// The calls have just these signatures.
var (
	_ func(*arena.Arena, uint32) (uint32, error)      = square.Expand
	_ func(*arena.Arena, uint32, int) (uint32, error) = square.Fit
	_ func(*arena.Arena, uint32) [4]site.Leaf         = square.Leaves
	_ func(*arena.Arena, uint32) (uint32, error)      = square.Centre
	_ func(*arena.Arena, uint32) (uint32, error)      = square.Trim
	_ func(*arena.Arena, uint32) ([9]uint32, error)   = square.Nine
)

const full = site.Leaf(math.MaxUint32)

// levels are those of roots that are tried.
var levels = []int{3, 4, 5, 6, 7, 12, 33, 42, 43, 44}

// answered takes what a call tells, and tells the node, if there is no error.
func answered(t *testing.T) func(i uint32, err error) uint32 {
	return func(i uint32, err error) uint32 {
		t.Helper()
		if err != nil {
			t.Fatal(err)
		}
		return i
	}
}

// same holds the cells that are told of a root against a set.
func same(t *testing.T, a *arena.Arena, root uint32, s set.Set) {
	t.Helper()
	if l, err := tree.Cells(a, root, len(s)); err != nil || !slices.Equal(l, s) {
		t.Fatalf("%v, %v, not %v", l, err, s)
	}
}

func TestExpand(t *testing.T) {
	r := rand.New(rand.NewSource(1))
	for _, level := range levels {
		for _, s := range anySets(r, level) {
			a := arena.New(1 << 20)
			root := laid(t, a, level, s)
			up, err := square.Expand(a, root)
			if level == 44 {
				if up != 0 || err != error(api.ErrDepth) {
					t.Errorf("Expand of level 44 = %d, %v", up, err)
				}
				continue
			}
			if err != nil || a.Level(up) != level+1 || up != laid(t, a, level+1, s) {
				t.Fatalf("Expand of %v, of level %d = %d of level %d, %v", s, level, up, a.Level(up), err)
			}
			same(t, a, up, s)
			same(t, a, root, s)
		}
	}
}

// One cell at each point of a small root: each stays where it is.
func TestExpandOfEachCell(t *testing.T) {
	a := arena.New(1 << 20)
	for level := 3; level <= 4; level++ {
		h := halfOf(level)
		for x := -h; x < h; x++ {
			for y := -h; y < h; y++ {
				s := set.Of(at(x, y, int(x&1)))
				up := answered(t)(square.Expand(a, laid(t, a, level, s)))
				same(t, a, up, s)
				if down := answered(t)(square.Centre(a, up)); down != laid(t, a, level, s) {
					t.Fatalf("the centre of Expand of %v isn't that again", s)
				}
			}
		}
	}
}

// Leaves, and what isn't there, are no roots; and an error in the call is ahead of no room.
func TestOfNoRoot(t *testing.T) {
	a := arena.New(1000)
	fullNode(t, a, 6, full)
	for range 2 {
		for _, i := range leavesAndNone(t, a) {
			refused(t, a, api.ErrArg, func() ([]uint32, error) { return one(square.Expand(a, i)) })
			refused(t, a, api.ErrArg, func() ([]uint32, error) { return one(square.Centre(a, i)) })
			refused(t, a, api.ErrArg, func() ([]uint32, error) { return one(square.Trim(a, i)) })
			refused(t, a, api.ErrArg, func() ([]uint32, error) { return nine(square.Nine(a, i)) })
			for _, level := range []int{math.MinInt, -1, 0, 2, 3, 4, 44, 45, math.MaxInt} {
				refused(t, a, api.ErrArg, func() ([]uint32, error) { return one(square.Fit(a, i, level)) })
			}
			if l := square.Leaves(a, i); l != [4]site.Leaf{} {
				t.Errorf("Leaves(%d) = %v", i, l)
			}
		}
		leave(t, a, 0)
	}
}

func TestAtMaxLevel(t *testing.T) {
	a := arena.New(1000)
	for range 2 {
		for _, root := range []uint32{fullNode(t, a, 44, full), laid(t, a, 44, nil)} {
			refused(t, a, api.ErrDepth, func() ([]uint32, error) { return one(square.Expand(a, root)) })
			for _, level := range []int{45, 46, 64, 1 << 32, math.MaxInt} {
				refused(t, a, api.ErrDepth, func() ([]uint32, error) { return one(square.Fit(a, root, level)) })
			}
			for _, level := range []int{math.MinInt, -1, 0, 3, 43, 44} {
				if i, err := square.Fit(a, root, level); i != root || err != nil {
					t.Errorf("Fit to %d = %d, %v, not %d", level, i, err, root)
				}
			}
		}
		leave(t, a, 0)
	}
}

func TestFit(t *testing.T) {
	r := rand.New(rand.NewSource(2))
	for _, level := range levels {
		for k, s := range anySets(r, level) {
			a := arena.New(1 << 20)
			root := laid(t, a, level, s)
			before := a.Len()
			for _, to := range []int{math.MinInt, -1 << 32, -1, 0, 1, 2, 3, level - 1, level} {
				if i, err := square.Fit(a, root, to); i != root && to <= level || err != nil && to <= level {
					t.Fatalf("Fit of level %d to %d = %d, %v, not %d", level, to, i, err, root)
				}
			}
			if a.Len() != before {
				t.Errorf("Fit to no more than there is made %d nodes", a.Len()-before)
			}
			for to := level + 1; to <= 44; to += 1 + k%4 {
				up, err := square.Fit(a, root, to)
				if err != nil || a.Level(up) != to || up != laid(t, a, to, s) {
					t.Fatalf("Fit of %v, of level %d, to %d = %d of level %d, %v", s, level, to, up, a.Level(up), err)
				}
			}
			for _, to := range []int{45, 46, 1 << 32, math.MaxInt} {
				if up, err := square.Fit(a, root, to); up != 0 || err != error(api.ErrDepth) {
					t.Fatalf("Fit of level %d to %d = %d, %v", level, to, up, err)
				}
			}
			same(t, a, answered(t)(square.Fit(a, root, 44)), s)
			same(t, a, root, s)
		}
	}
}

// One by one: the first level for which there is no room is ahead of the one that can't be.
func TestFitAboveMaxLevelWithoutRoom(t *testing.T) {
	a := arena.New(1000)
	root := fullNode(t, a, 40, full)
	leave(t, a, 0)
	refused(t, a, api.ErrBudget, func() ([]uint32, error) { return one(square.Fit(a, root, 45)) })
	leave(t, a, 5*4+64)
	if up, err := square.Fit(a, root, 45); up != 0 || err != error(api.ErrDepth) {
		t.Errorf("Fit to 45 = %d, %v", up, err)
	}
}

func TestLeaves(t *testing.T) {
	r := rand.New(rand.NewSource(3))
	a := arena.New(1 << 16)
	for range 300 {
		var want [4]site.Leaf
		var kids [4]uint32
		for k := range kids {
			want[k] = site.Leaf(r.Uint32()) * site.Leaf(r.Intn(2))
			kids[k] = answered(t)(a.Leaf(want[k]))
		}
		i := answered(t)(a.Join(kids))
		if l := square.Leaves(a, i); l != want {
			t.Fatalf("Leaves = %x, not %x", l, want)
		}
		above := answered(t)(a.Join([4]uint32{i, i, i, i}))
		if l := square.Leaves(a, above); l != [4]site.Leaf{} {
			t.Fatalf("Leaves of level 4 = %x", l)
		}
	}
	for level := 4; level <= 44; level++ {
		if l := square.Leaves(a, fullNode(t, a, level, full)); l != [4]site.Leaf{} {
			t.Errorf("Leaves of level %d = %x", level, l)
		}
	}
	if l := square.Leaves(a, laid(t, a, 3, nil)); l != [4]site.Leaf{} {
		t.Errorf("Leaves of none = %x", l)
	}
}

func TestCentre(t *testing.T) {
	r := rand.New(rand.NewSource(4))
	for _, level := range levels {
		a := arena.New(1 << 20)
		h := halfOf(level)
		for _, s := range anySets(r, level) {
			root := laid(t, a, level, s)
			want := laidAt(t, a, axis.Point{A: -h / 2, B: -h / 2}, level-1, s)
			i, err := square.Centre(a, root)
			if err != nil || i != want || a.Level(i) != level-1 {
				t.Fatalf("Centre of %v, of level %d = %d of level %d, %v, not %d", s, level, i, a.Level(i), err, want)
			}
		}
	}
}

// Each cell of a node of level Least, by itself: those in the middle are in the leaf, at two less both ways.
func TestCentreOfEachCell(t *testing.T) {
	a := arena.New(1 << 16)
	for x := int64(-4); x < 4; x++ {
		for y := int64(-4); y < 4; y++ {
			for half := range 2 {
				i := answered(t)(square.Centre(a, laid(t, a, 3, set.Of(at(x, y, half)))))
				want := site.Leaf(0)
				if -2 <= x && x < 2 && -2 <= y && y < 2 {
					want = want.Put(int(x)+2, int(y)+2, 1<<half)
				}
				if a.Level(i) != 2 || a.Bits(i) != want {
					t.Errorf("Centre of (%d, %d), Half %d = %x, not %x", x, y, half, a.Bits(i), want)
				}
			}
		}
	}
}

func TestNine(t *testing.T) {
	r := rand.New(rand.NewSource(5))
	for _, level := range levels[1:] {
		a := arena.New(1 << 20)
		h := halfOf(level)
		for _, s := range anySets(r, level) {
			root := laid(t, a, level, s)
			l, err := square.Nine(a, root)
			if err != nil {
				t.Fatal(err)
			}
			for k, i := range l {
				low := axis.Point{A: -h + int64(k%3)*(h/2), B: -h + int64(k/3)*(h/2)}
				if want := laidAt(t, a, low, level-1, s); i != want || a.Level(i) != level-1 {
					t.Fatalf("Nine of %v, of level %d: the %d-th one is %d, not %d", s, level, k, i, want)
				}
			}
			kids := a.Kids(root)
			if middle := answered(t)(square.Centre(a, root)); l[4] != middle || [4]uint32{l[0], l[2], l[6], l[8]} != kids {
				t.Fatalf("Nine of level %d = %v, with kids %v around %d", level, l, kids, middle)
			}
		}
	}
}

func TestNineOfLeast(t *testing.T) {
	a := arena.New(1000)
	for _, i := range []uint32{fullNode(t, a, 3, full), laid(t, a, 3, nil), laid(t, a, 3, edges(3))} {
		refused(t, a, api.ErrArg, func() ([]uint32, error) { return nine(square.Nine(a, i)) })
		leave(t, a, 5)
		refused(t, a, api.ErrArg, func() ([]uint32, error) { return nine(square.Nine(a, i)) })
	}
}

// Down to the least level of all that live: that of the set.
func TestTrim(t *testing.T) {
	r := rand.New(rand.NewSource(6))
	for _, level := range levels {
		for _, s := range anySets(r, level) {
			a := arena.New(1 << 20)
			least := leastLevel(s)
			want := laid(t, a, least, s)
			for _, from := range []int{least, min(least+1, 44), min(least+5, 44), level, 44} {
				if from < least {
					continue
				}
				root := laid(t, a, from, s)
				down, err := square.Trim(a, root)
				if err != nil || down != want || a.Level(down) != least {
					t.Fatalf("Trim of %v, of level %d = %d of level %d, %v, not %d", s, from, down, a.Level(down), err, want)
				}
				same(t, a, down, s)
				same(t, a, root, s)
			}
		}
	}
}

// Just inside of the middle, and just outside of it, on each side, with others in the middle and alone.
func TestTrimAtTheEdge(t *testing.T) {
	for level := 4; level <= 44; level++ {
		a := arena.New(1 << 16)
		h := halfOf(level)
		q := h / 2
		for _, others := range []set.Set{nil, set.Of(at(0, 0, 0), at(-1, -1, 1))} {
			for _, x := range []struct {
				a, b int64
				in   bool
			}{
				{q - 1, 0, true}, {-q, 0, true}, {0, q - 1, true}, {0, -q, true}, {-q, -q, true}, {q - 1, q - 1, true}, {-q, q - 1, true}, {q - 1, -q, true},
				{q, 0, false}, {-q - 1, 0, false}, {0, q, false}, {0, -q - 1, false}, {q, q, false}, {-q - 1, -q - 1, false}, {q, -q - 1, false}, {-q - 1, q, false},
				{h - 1, -h, false}, {-h, h - 1, false},
			} {
				for half := range 2 {
					s := others.Put(at(x.a, x.b, half), true)
					root := laid(t, a, level, s)
					down := answered(t)(square.Trim(a, root))
					if a.Level(down) < level != x.in || !x.in && down != root || x.in && a.Level(down) != level-1 {
						t.Fatalf("Trim of %v, of level %d: level %d", s, level, a.Level(down))
					}
				}
			}
		}
	}
}

func TestTrimOfNoCells(t *testing.T) {
	a := arena.New(1000)
	for level := 3; level <= 44; level++ {
		if down := answered(t)(square.Trim(a, laid(t, a, level, nil))); a.Level(down) != 3 || a.Count(down) != 0 {
			t.Errorf("Trim of none, of level %d: level %d", level, a.Level(down))
		}
	}
}

// Where MostCount live or more it isn't known whether others live outside of the middle; and with just one less it is.
func TestTrimAtMostCount(t *testing.T) {
	for _, x := range []struct {
		first site.Leaf
		trims bool
	}{{full, false}, {full - 1, true}} {
		a := arena.New(1 << 12)
		// Full of level 30 is 2^61: two such kids are 2^62, or one less, if one cell of a leaf doesn't live.
		but, all := answered(t)(a.Leaf(x.first)), answered(t)(a.Leaf(full))
		for a.Level(all) < 30 {
			but = answered(t)(a.Join([4]uint32{but, all, all, all}))
			all = answered(t)(a.Join([4]uint32{all, all, all, all}))
		}
		none := laid(t, a, 30, nil)
		root := answered(t)(a.Join([4]uint32{but, all, none, none}))
		if want := uint64(x.first.Count()) + 1<<62 - 32; a.Count(root) != want {
			t.Fatalf("%d live, not %d", a.Count(root), want)
		}
		up := answered(t)(square.Fit(a, root, 35))
		down := answered(t)(square.Trim(a, up))
		if x.trims && down != root || !x.trims && down != up {
			t.Errorf("Trim of %d that live: level %d", a.Count(root), a.Level(down))
		}
		if again := answered(t)(square.Trim(a, root)); again != root {
			t.Errorf("Trim of what can't be trimmed is %d, not %d", again, root)
		}
	}
	a := arena.New(1000)
	for level := 31; level <= 43; level++ {
		root := fullNode(t, a, level, full)
		if up := answered(t)(square.Expand(a, root)); a.Level(answered(t)(square.Trim(a, up))) != level+1 {
			t.Errorf("Trim of Expand of all of level %d", level)
		}
	}
}

// Example 1 of the chapter.
func TestExample(t *testing.T) {
	r := rand.New(rand.NewSource(7))
	for _, level := range levels {
		for _, s := range anySets(r, min(level, 43)) {
			a := arena.New(1 << 20)
			root := answered(t)(tree.Build(a, s))
			up := answered(t)(square.Expand(a, root))
			if x, y := answered(t)(square.Trim(a, up)), answered(t)(square.Trim(a, root)); x != y || x != root {
				t.Fatalf("Trim of Expand of %v = %d, not %d", s, x, y)
			}
		}
	}
}

// What the chapter names is room enough; where there is less, those that were made fill it.
func TestRoomOfExpandAndFit(t *testing.T) {
	for level := 3; level <= 43; level++ {
		for _, f := range []site.Leaf{full, 1, 0} {
			if room := roomy(t, 6+64, func(a *arena.Arena) asked {
				root := fullNode(t, a, level, f)
				return func() ([]uint32, error) { return one(square.Expand(a, root)) }
			}); room < 1 {
				t.Errorf("Expand of level %d needs room for %d", level, room)
			}
		}
		next := site.Leaf(7)
		roomy(t, 6+64, func(a *arena.Arena) asked {
			next = 7
			root := motley(t, a, level, 2, &next)
			return func() ([]uint32, error) { return one(square.Expand(a, root)) }
		})
		for _, up := range []int{2, 5, 44 - level} {
			if level+up > 44 || up < 1 || level%5 != 0 {
				continue
			}
			roomy(t, 6*up+64, func(a *arena.Arena) asked {
				next = 7
				root := motley(t, a, level, 2, &next)
				return func() ([]uint32, error) { return one(square.Fit(a, root, level+up)) }
			})
		}
	}
}

func TestRoomOfCentreAndNine(t *testing.T) {
	for level := 3; level <= 44; level++ {
		centre := roomy(t, 1, func(a *arena.Arena) asked {
			next := site.Leaf(7)
			root := motley(t, a, level, 2, &next)
			return func() ([]uint32, error) { return one(square.Centre(a, root)) }
		})
		if centre != 1 {
			t.Errorf("Centre of level %d needs room for %d", level, centre)
		}
		if level == 3 {
			continue
		}
		// Four of the nine are kids.
		if room := roomy(t, 9, func(a *arena.Arena) asked {
			next := site.Leaf(7)
			root := motley(t, a, level, 2, &next)
			return func() ([]uint32, error) { return nine(square.Nine(a, root)) }
		}); room != 5 {
			t.Errorf("Nine of level %d needs room for %d", level, room)
		}
		// All nine are one.
		if room := roomy(t, 0, func(a *arena.Arena) asked {
			root := fullNode(t, a, level, full)
			return func() ([]uint32, error) { return nine(square.Nine(a, root)) }
		}); room != 0 {
			t.Errorf("Nine of level %d, all alike, needs room for %d", level, room)
		}
	}
}

func TestRoomOfTrim(t *testing.T) {
	for level := 3; level <= 44; level++ {
		for _, s := range []set.Set{nil, set.Of(at(0, 0, 0)), set.Of(at(-1, 0, 1), at(0, -1, 0)), edges(3), edges(min(level, 9))} {
			roomy(t, level-leastLevel(s)+64, func(a *arena.Arena) asked {
				root := laid(t, a, level, s)
				return func() ([]uint32, error) { return one(square.Trim(a, root)) }
			})
		}
	}
	// What can't be trimmed needs no room.
	a := arena.New(1000)
	root := laid(t, a, 6, edges(6))
	leave(t, a, 0)
	if i, err := square.Trim(a, root); i != root || err != nil {
		t.Errorf("Trim = %d, %v, not %d", i, err, root)
	}
}

// With as many nodes as there may be: what is there is told, and what isn't is ErrBudget.
func TestWithNoRoom(t *testing.T) {
	for _, level := range []int{4, 5, 20, 43} {
		a := arena.New(1 << 16)
		next := site.Leaf(7)
		root, none := motley(t, a, level, 2, &next), laid(t, a, 3, nil)
		leave(t, a, 0)
		refused(t, a, api.ErrBudget, func() ([]uint32, error) { return one(square.Expand(a, root)) })
		refused(t, a, api.ErrBudget, func() ([]uint32, error) { return one(square.Fit(a, root, level+1)) })
		refused(t, a, api.ErrBudget, func() ([]uint32, error) { return one(square.Fit(a, root, 44)) })
		refused(t, a, api.ErrBudget, func() ([]uint32, error) { return one(square.Centre(a, root)) })
		refused(t, a, api.ErrBudget, func() ([]uint32, error) { return nine(square.Nine(a, root)) })
		refused(t, a, api.ErrBudget, func() ([]uint32, error) { return one(square.Expand(a, none)) })
	}
	a := arena.New(1000)
	corner, none := answered(t)(a.Leaf(1)), uint32(0)
	kid := answered(t)(a.Join([4]uint32{corner, none, none, none}))
	empty := answered(t)(a.Empty(3))
	root := answered(t)(a.Join([4]uint32{empty, empty, empty, kid}))
	leave(t, a, 0)
	refused(t, a, api.ErrBudget, func() ([]uint32, error) { return one(square.Trim(a, root)) })
	leave(t, a, 1)
	if down := answered(t)(square.Trim(a, root)); a.Kids(down) != [4]uint32{0, 0, 0, corner} {
		t.Errorf("Trim = %v", a.Kids(down))
	}
}

// No room is wanted where all nodes of the answer are there, whoever made them.
func TestOfWhatIsThere(t *testing.T) {
	r := rand.New(rand.NewSource(10))
	for _, level := range levels[1:] {
		for _, s := range anySets(r, level) {
			a := arena.New(1 << 20)
			h := halfOf(level)
			root, least, up := laid(t, a, level, s), laid(t, a, leastLevel(s), s), laid(t, a, min(level+1, 44), s)
			middle := laidAt(t, a, axis.Point{A: -h / 2, B: -h / 2}, level-1, s)
			var parts [9]uint32
			for k := range parts {
				parts[k] = laidAt(t, a, axis.Point{A: -h + int64(k%3)*(h/2), B: -h + int64(k/3)*(h/2)}, level-1, s)
			}
			leave(t, a, 0)
			before := a.Len()
			l, err := square.Nine(a, root)
			if l != parts || err != nil {
				t.Errorf("Nine = %v, %v, not %v", l, err, parts)
			}
			if i := answered(t)(square.Fit(a, root, min(level+1, 44))); i != up {
				t.Errorf("Fit = %d, not %d", i, up)
			}
			if i := answered(t)(square.Centre(a, root)); i != middle {
				t.Errorf("Centre = %d, not %d", i, middle)
			}
			if i := answered(t)(square.Trim(a, root)); i != least || a.Len() != before {
				t.Errorf("Trim = %d, not %d", i, least)
			}
		}
	}
}

// No error in between leaves anything behind but nodes: then, with room, the answer is that of an arena that always had it.
func TestBehindAnError(t *testing.T) {
	r := rand.New(rand.NewSource(8))
	for _, s := range anySets(r, 6) {
		a := arena.New(1 << 16)
		root := laid(t, a, 6, s)
		leave(t, a, 3)
		square.Fit(a, root, 20)
		square.Nine(a, root)
		leave(t, a, 1<<12)
		if up := answered(t)(square.Fit(a, root, 20)); up != laid(t, a, 20, s) {
			t.Fatalf("Fit of %v = %d", s, up)
		}
		l, err := square.Nine(a, root)
		if err != nil {
			t.Fatal(err)
		}
		for k, i := range l {
			if low := (axis.Point{A: -32 + int64(k%3)*16, B: -32 + int64(k/3)*16}); i != laidAt(t, a, low, 5, s) {
				t.Fatalf("Nine of %v = %v", s, l)
			}
		}
	}
}

// Any calls one behind the other, with little room: the same cells live in what comes of them, or there is ErrBudget with no room left.
func TestAnyCalls(t *testing.T) {
	for seed := range int64(40) {
		r := rand.New(rand.NewSource(200 + seed))
		a := arena.New(100 + r.Intn(700))
		level := 3 + r.Intn(6)
		s := some(r, r.Intn(5), axis.Point{}, halfOf(level)-1)
		root, err := tree.Build(a, s)
		if err != nil {
			continue
		}
		for range 60 {
			before, now := a.Len(), a.Level(root)
			var i uint32
			var err error
			room, want := 0, now
			switch r.Intn(4) {
			case 0:
				i, err = square.Expand(a, root)
				room, want = 6+64, now+1
			case 1:
				to := 2 + r.Intn(44)
				i, err = square.Fit(a, root, to)
				room, want = 6*max(to-now, 0)+64, max(to, now)
			default:
				i, err = square.Trim(a, root)
				room, want = now-leastLevel(s)+64, leastLevel(s)
			}
			switch {
			case err == nil && (a.Level(i) != want || i != laidWithRoom(t, a, want, s)):
				t.Fatalf("%v of level %d became %d of level %d, not %d", s, now, i, a.Level(i), want)
			case err == nil:
				same(t, a, i, s)
				root = i
			case i != 0 || err == error(api.ErrDepth) && want <= 44:
				t.Fatalf("%d, %v", i, err)
			case err != error(api.ErrDepth) && (err != error(api.ErrBudget) || a.Len() != a.Most() || a.Most()-before >= room):
				t.Fatalf("%v: %d nodes, ahead %d, of %d", err, a.Len(), before, a.Most())
			}
		}
	}
}

// laidWithRoom is laid by hand; its nodes are there already, if the root is.
func laidWithRoom(t *testing.T, a *arena.Arena, level int, s set.Set) uint32 {
	t.Helper()
	most := a.Most()
	leave(t, a, 0)
	i := laid(t, a, level, s)
	if err := a.SetMost(most); err != nil {
		t.Fatal(err)
	}
	return i
}

// The same calls make the same nodes, under the same numbers.
func TestAlike(t *testing.T) {
	told := func() []uint32 {
		r := rand.New(rand.NewSource(9))
		a := arena.New(1 << 18)
		var l []uint32
		for _, s := range anySets(r, 9) {
			root := laid(t, a, 9, s)
			up := answered(t)(square.Fit(a, root, 13))
			down := answered(t)(square.Trim(a, up))
			middle := answered(t)(square.Centre(a, root))
			nine, err := square.Nine(a, up)
			if err != nil {
				t.Fatal(err)
			}
			l = append(append(l, up, down, middle, uint32(a.Len())), nine[:]...)
		}
		return l
	}
	first := told()
	for range 3 {
		if again := told(); !slices.Equal(again, first) {
			t.Fatalf("%v, and then %v", first, again)
		}
	}
}
