package tree_test

import (
	"math"
	"math/rand"
	"slices"
	"testing"

	"honeycomb/api"
	"honeycomb/arena"
	"honeycomb/axis"
	"honeycomb/cell"
	"honeycomb/set"
	"honeycomb/tree"
)

// The calls have just these signatures.
var (
	_ func(int) int64                                             = tree.Half
	_ func(int, axis.Point) bool                                  = tree.Inside
	_ func(set.Box) int                                           = tree.Level
	_ func(*arena.Arena, uint32, cell.Cell) bool                  = tree.Get
	_ func(*arena.Arena, uint32, cell.Cell, bool) (uint32, error) = tree.Put
	_ func(*arena.Arena, set.Set) (uint32, error)                 = tree.Build
	_ func(*arena.Arena, uint32, int) (set.Set, error)            = tree.Cells
	_ func(*arena.Arena, uint32) (set.Box, bool)                  = tree.Box
	_ [tree.Least]struct{}                                        = [3]struct{}{}
)

// wildLevels are some below those that there are, and above.
var wildLevels = []int{math.MinInt, -1 << 32, -44, -1, 0, 1, 2, 45, 46, 63, 64, 65, 1 << 32, 1<<32 + 5, math.MaxInt}

func TestHalf(t *testing.T) {
	want := map[int]int64{1: 1, 2: 2, 3: 4, 4: 8, 5: 16, 31: 1 << 30, 32: 1 << 31, 33: 1 << 32, 43: 1 << 42, 44: 1 << 43}
	for _, level := range wildLevels {
		if level < 1 {
			want[level] = 1
		}
		if level > 44 {
			want[level] = 1 << 43
		}
	}
	for level, half := range want {
		if n := tree.Half(level); n != half {
			t.Errorf("Half(%d) = %d, not %d", level, n, half)
		}
	}
	for level := 2; level <= 44; level++ {
		if n := tree.Half(level); n != 2*tree.Half(level-1) || n != halfOf(level) {
			t.Errorf("Half(%d) = %d", level, n)
		}
	}
}

func TestInside(t *testing.T) {
	levels := slices.Clone(wildLevels)
	for level := 3; level <= 44; level++ {
		levels = append(levels, level)
	}
	for _, level := range levels {
		half := int64(1) << (min(max(level, 1), 44) - 1)
		in := map[int64]bool{
			-half: true, -half + 1: true, -1: true, 0: true, half - 1: true,
			half: false, half + 1: false, -half - 1: false, 2 * half: false, -2 * half: false,
			math.MinInt64: false, math.MinInt64 + 1: false, math.MaxInt64: false,
			1 << 43: false, 1 << 44: false, -1<<43 - 1: false, 1 << 62: false, -1 << 62: false,
		}
		if half == 1 {
			in[-half+1], in[half-1] = true, true
		}
		for a, inA := range in {
			for b, inB := range in {
				if tree.Inside(level, axis.Point{A: a, B: b}) != (inA && inB) {
					t.Errorf("Inside(%d, (%d, %d)) = %v", level, a, b, !(inA && inB))
				}
			}
		}
	}
}

// The points of a small root, one by one, and those around it.
func TestInsideOfAll(t *testing.T) {
	for level := 1; level <= 5; level++ {
		n := 0
		for a := int64(-40); a <= 40; a++ {
			for b := int64(-40); b <= 40; b++ {
				if tree.Inside(level, axis.Point{A: a, B: b}) {
					n++
				}
			}
		}
		if n != 1<<(2*level) {
			t.Errorf("%d points are inside of level %d", n, level)
		}
	}
}

func TestLevel(t *testing.T) {
	for _, x := range []struct {
		a, b int64
		want int
	}{
		{0, 0, 3}, {3, 3, 3}, {-4, -4, 3}, {-4, 3, 3}, {4, 0, 4}, {0, 4, 4}, {-5, 0, 4}, {0, -5, 4}, {7, -8, 4}, {8, 0, 5}, {0, -9, 5},
		{1 << 40, 0, 42}, {1<<40 - 1, 0, 41}, {0, -1 << 40, 41}, {-1<<40 - 1, 0, 42},
		{1<<42 - 1, -1 << 42, 43}, {1 << 42, 0, 44}, {0, -1<<42 - 1, 44}, {1<<43 - 1, -1 << 43, 44},
		{1 << 43, 0, 44}, {0, -1<<43 - 1, 44}, {math.MaxInt64, math.MinInt64, 44}, {math.MinInt64, 0, 44},
	} {
		p := axis.Point{A: x.a, B: x.b}
		// Of one point; of two, in any order; and swapped.
		for _, b := range []set.Box{{Low: p, High: p}, {High: p}, {Low: p}, {Low: axis.Point{A: x.b, B: x.a}}, {Low: p, High: axis.Point{A: x.b, B: x.a}}} {
			if level := tree.Level(b); level != x.want {
				t.Errorf("Level(%v) = %d, not %d", b, level, x.want)
			}
		}
	}
	if tree.Level(set.Box{}) != 3 {
		t.Error("Level of the origin")
	}
}

// The least level, for all boxes with corners at the edges of squares.
func TestLevelIsLeast(t *testing.T) {
	var numbers []int64
	for level := 3; level <= 44; level++ {
		h := halfOf(level)
		numbers = append(numbers, h-1, h, -h, -h-1)
	}
	for _, a := range numbers {
		for _, b := range numbers {
			box := set.Box{Low: axis.Point{A: min(a, 0), B: min(b, 0)}, High: axis.Point{A: max(a, 0), B: max(b, 0)}}
			want := 3
			for want < 44 && (max(a, b) >= halfOf(want) || min(a, b) < -halfOf(want)) {
				want++
			}
			if level := tree.Level(box); level != want {
				t.Fatalf("Level(%v) = %d, not %d", box, level, want)
			}
		}
	}
}

// All cells of small roots, and some around them.
func TestGet(t *testing.T) {
	r := rand.New(rand.NewSource(1))
	a := arena.New(1 << 20)
	for level := 3; level <= 5; level++ {
		h := halfOf(level)
		for _, n := range []int{0, 1, 5, 50, 400} {
			s := some(r, 2, n, axis.Point{}, h-1)
			root := laid(t, a, level, s)
			before := a.Len()
			for x := -h - 2; x < h+2; x++ {
				for y := -h - 2; y < h+2; y++ {
					for _, half := range []int{0, 1, 2, -1} {
						if c := at(x, y, half); tree.Get(a, root, c) != s.Has(c) {
							t.Fatalf("Get(%v) of level %d = %v", c, level, !s.Has(c))
						}
					}
				}
			}
			if a.Len() != before {
				t.Errorf("Get made %d nodes", a.Len()-before)
			}
		}
	}
}

// Cells of great roots, and those beside them.
func TestGetFarAway(t *testing.T) {
	r := rand.New(rand.NewSource(2))
	for _, s := range anySets(r) {
		a := arena.New(1 << 20)
		for _, level := range []int{leastLevel(s), 44} {
			root := laid(t, a, level, s)
			h := halfOf(level)
			for _, c := range s {
				for _, by := range []int64{0, 1, -1, 4, -4, h, -h, 2 * h} {
					for _, d := range []cell.Cell{at(c.At.A+by, c.At.B, c.Half), at(c.At.A, c.At.B+by, c.Half), at(c.At.A, c.At.B+by, 1-c.Half)} {
						if tree.Get(a, root, d) != s.Has(d) {
							t.Fatalf("Get(%v) of %v is %v", d, s, !s.Has(d))
						}
					}
				}
			}
		}
	}
}

func TestGetOfFull(t *testing.T) {
	a := arena.New(1000)
	for level := 3; level <= 44; level++ {
		root, h := fullRoot(t, a, level), halfOf(level)
		for _, half := range []int{math.MinInt, -64, -2, -1, 0, 1, 2, 3, 31, 32, 64, math.MaxInt} {
			for _, in := range []axis.Point{{}, {A: -h, B: h - 1}, {A: h - 1, B: -h}, {A: -h, B: -h}, {A: h - 1, B: h - 1}} {
				if tree.Get(a, root, cell.Cell{At: in, Half: half}) != (half == 0 || half == 1) {
					t.Errorf("Get of %v, Half %d", in, half)
				}
			}
		}
		for _, n := range []int64{h, -h - 1, 2 * h, -2*h - 1, math.MaxInt64, math.MinInt64} {
			if tree.Get(a, root, at(n, 0, 0)) || tree.Get(a, root, at(0, n, 1)) || tree.Get(a, root, at(n, n, 1)) {
				t.Errorf("Get of what is %d away, of level %d", n, level)
			}
		}
	}
}

func TestOfNoRoot(t *testing.T) {
	a := arena.New(1000)
	fullRoot(t, a, 6)
	for _, i := range noRoots(t, a) {
		for _, c := range []cell.Cell{at(0, 0, 0), at(0, 0, 1), at(-1, -1, 0), at(5000, 0, 0), at(0, 0, 7), at(math.MaxInt64, math.MinInt64, -1)} {
			if tree.Get(a, i, c) {
				t.Errorf("Get(%d, %v)", i, c)
			}
			for _, live := range []bool{false, true} {
				refused(t, a, api.ErrArg, func() (uint32, error) { return tree.Put(a, i, c, live) })
			}
		}
		for _, most := range []int{math.MinInt, -1, 0, 1, math.MaxInt} {
			if s, err := tree.Cells(a, i, most); len(s) != 0 || err != error(api.ErrArg) {
				t.Errorf("Cells(%d, %d) = %v, %v", i, most, s, err)
			}
		}
		if b, ok := tree.Box(a, i); ok || b != (set.Box{}) {
			t.Errorf("Box(%d) = %v, %v", i, b, ok)
		}
	}
}

// Each cell of small roots, alive and dead: it becomes what it should, and all others stay.
func TestPut(t *testing.T) {
	r := rand.New(rand.NewSource(3))
	for level := 3; level <= 4; level++ {
		h := halfOf(level)
		for _, n := range []int{0, 1, 9, 200} {
			a := arena.New(1 << 20)
			s := some(r, 2, n, axis.Point{}, h-1)
			root := laid(t, a, level, s)
			for x := -h; x < h; x++ {
				for y := -h; y < h; y++ {
					for half := range 2 {
						for _, live := range []bool{false, true} {
							c := at(x, y, half)
							i, err := tree.Put(a, root, c, live)
							if want := laid(t, a, level, s.Put(c, live)); i != want || err != nil || s.Has(c) == live && i != root {
								t.Fatalf("Put(%v, %v) = %d, %v, not %d", c, live, i, err, want)
							}
						}
					}
				}
			}
		}
	}
}

// Cells of great roots: put, put again, put out, and out again.
func TestPutFarAway(t *testing.T) {
	r := rand.New(rand.NewSource(4))
	for _, s := range anySets(r) {
		a := arena.New(1 << 20)
		for _, level := range []int{leastLevel(s), 44} {
			none, err := a.Empty(level)
			if err != nil {
				t.Fatal(err)
			}
			root, now := none, set.Set(nil)
			for _, k := range r.Perm(len(s)) {
				for range 2 {
					if root, err = tree.Put(a, root, s[k], true); err != nil {
						t.Fatal(err)
					}
				}
				now = now.Put(s[k], true)
				if root != laid(t, a, level, now) {
					t.Fatalf("Put of %v, of level %d", now, level)
				}
			}
			for _, k := range r.Perm(len(s)) {
				for range 2 {
					if root, err = tree.Put(a, root, s[k], false); err != nil {
						t.Fatal(err)
					}
				}
			}
			if root != none {
				t.Fatalf("all of %v put out of level %d are %d, not %d", s, level, root, none)
			}
		}
	}
}

func TestPutRefused(t *testing.T) {
	a := arena.New(1000)
	for level := 3; level <= 44; level++ {
		h := halfOf(level)
		for _, root := range []uint32{laid(t, a, level, nil), fullRoot(t, a, level)} {
			for _, live := range []bool{false, true} {
				for _, n := range []int64{h, -h - 1, 2 * h, -2*h - 1, 1 << 43, math.MaxInt64, math.MinInt64} {
					for _, p := range []axis.Point{{A: n}, {B: n}, {A: n, B: n}, {A: n, B: -1}} {
						for half := range 2 {
							refused(t, a, api.ErrRange, func() (uint32, error) { return tree.Put(a, root, cell.Cell{At: p, Half: half}, live) })
						}
						// ErrArg is ahead of ErrRange.
						refused(t, a, api.ErrArg, func() (uint32, error) { return tree.Put(a, root, cell.Cell{At: p, Half: 2}, live) })
					}
				}
				for _, half := range []int{math.MinInt, -1, 2, 3, 32, 64, math.MaxInt} {
					refused(t, a, api.ErrArg, func() (uint32, error) { return tree.Put(a, root, at(0, 0, half), live) })
				}
			}
		}
	}
	// And both are ahead of ErrBudget.
	leave(t, a, 0)
	root := fullRoot(t, a, 5)
	refused(t, a, api.ErrArg, func() (uint32, error) { return tree.Put(a, 0, at(0, 0, 0), false) })
	refused(t, a, api.ErrArg, func() (uint32, error) { return tree.Put(a, root, at(0, 0, 2), false) })
	refused(t, a, api.ErrRange, func() (uint32, error) { return tree.Put(a, root, at(16, 0, 0), false) })
	refused(t, a, api.ErrBudget, func() (uint32, error) { return tree.Put(a, root, at(15, 0, 0), false) })
}

// The root's level and 1 is room enough; where there is less, those that were made fill it.
func TestRoomOfPut(t *testing.T) {
	for level := 3; level <= 44; level++ {
		h := halfOf(level)
		for _, c := range []cell.Cell{at(0, 0, 0), at(-h, -h, 1), at(h-1, -h, 0), at(-1, h-1, 1)} {
			for _, live := range []bool{false, true} {
				room := roomy(t, level+1, func(a *arena.Arena) func() (uint32, error) {
					root := fullRoot(t, a, level)
					if live {
						root = laid(t, a, level, nil)
					}
					return func() (uint32, error) { return tree.Put(a, root, c, live) }
				})
				if room != level-1 {
					t.Errorf("room for %d nodes was wanted in level %d", room, level)
				}
			}
			// As it is already: no room at all.
			if room := roomy(t, level+1, func(a *arena.Arena) func() (uint32, error) {
				root := fullRoot(t, a, level)
				return func() (uint32, error) { return tree.Put(a, root, c, true) }
			}); room != 0 {
				t.Errorf("room for %d nodes was wanted for what was there", room)
			}
		}
	}
}

// Example 1 of the chapter.
func TestExample(t *testing.T) {
	a := arena.New(1000)
	for _, x := range []struct {
		s    set.Set
		want int
	}{{set.Of(at(-4, 3, 0), at(3, 0, 0)), 3}, {set.Of(at(4, 0, 0)), 4}} {
		root, err := tree.Build(a, x.s)
		if err != nil || a.Level(root) != x.want {
			t.Errorf("Build(%v) is of level %d, %v", x.s, a.Level(root), err)
		}
	}
}

func TestBuildOfNoCells(t *testing.T) {
	a := arena.New(1000)
	root, err := tree.Build(a, nil)
	if err != nil || a.Level(root) != 3 || a.Count(root) != 0 || a.Kids(root) != [4]uint32{} || a.Len() != 2 {
		t.Errorf("Build = %d, %v", root, err)
	}
	if again, err := tree.Build(a, set.Set{}); again != root || err != nil {
		t.Errorf("Build = %d, %v, not %d", again, err, root)
	}
	leave(t, a, 0)
	if again, err := tree.Build(a, nil); again != root || err != nil {
		t.Errorf("Build = %d, %v, not %d", again, err, root)
	}
	full := crowded(t, arena.New(64))
	refused(t, full, api.ErrBudget, func() (uint32, error) { return tree.Build(full, nil) })
}

// Of the least level, just those cells, and no node but those of the root; what is handed in stays.
func TestBuild(t *testing.T) {
	for _, s := range anySets(rand.New(rand.NewSource(5))) {
		a := arena.New(1 << 20)
		kept := slices.Clone(s)
		root, err := tree.Build(a, s)
		if err != nil || a.Level(root) != leastLevel(s) || a.Count(root) != uint64(len(s)) {
			t.Fatalf("Build(%v) is of level %d, with %d cells, %v", s, a.Level(root), a.Count(root), err)
		}
		nodes := under(a, root)
		nodes[0] = struct{}{}
		if a.Len() != len(nodes) {
			t.Errorf("Build(%v) made %d nodes, and has %d", s, a.Len(), len(nodes))
		}
		if want := laid(t, a, leastLevel(s), s); root != want {
			t.Fatalf("Build(%v) = %d, not %d", s, root, want)
		}
		if !slices.Equal(s, kept) {
			t.Fatalf("Build changed %v to %v", kept, s)
		}
	}
}

func TestBuildAtTheEdge(t *testing.T) {
	const h = 1 << 43
	near := []cell.Cell{at(0, 0, 0), at(-3, 5, 1), at(1<<40, -1<<40, 0)}
	for _, p := range []axis.Point{{A: -h, B: -h}, {A: h - 1, B: h - 1}, {A: -h, B: h - 1}, {A: h - 1}, {B: -h}} {
		a := arena.New(10000)
		s := set.Of(append([]cell.Cell{{At: p, Half: 1}}, near...)...)
		root, err := tree.Build(a, s)
		if err != nil || a.Level(root) != 44 || root != laid(t, a, 44, s) {
			t.Errorf("Build(%v): level %d, %v", s, a.Level(root), err)
		}
	}
	for _, n := range []int64{h, -h - 1, h + 1, 2 * h, 1 << 61, 1 << 62, -1 << 62, 1<<63 - 1, -1 << 63} {
		for _, p := range []axis.Point{{A: n}, {B: n}, {A: n, B: n}, {A: n, B: -1}, {A: h - 1, B: n}} {
			for _, s := range []set.Set{set.Of(cell.Cell{At: p}), set.Of(append([]cell.Cell{{At: p, Half: 1}}, near...)...)} {
				a := arena.New(64)
				refused(t, a, api.ErrRange, func() (uint32, error) { return tree.Build(a, s) })
				// ErrRange is ahead of ErrBudget.
				leave(t, a, 0)
				refused(t, a, api.ErrRange, func() (uint32, error) { return tree.Build(a, s) })
			}
		}
	}
}

// As many nodes as cells times the level, and 64, is room enough; where there is less, those that were made fill it.
func TestRoomOfBuild(t *testing.T) {
	r := rand.New(rand.NewSource(6))
	for _, s := range anySets(r) {
		if len(s) > 8 {
			continue
		}
		roomy(t, len(s)*leastLevel(s)+64, func(a *arena.Arena) func() (uint32, error) {
			return func() (uint32, error) { return tree.Build(a, s) }
		})
	}
}

func TestJustTheRoomOfBuild(t *testing.T) {
	for _, s := range anySets(rand.New(rand.NewSource(7))) {
		a := crowded(t, arena.New(64))
		leave(t, a, len(s)*leastLevel(s)+64)
		if root, err := tree.Build(a, s); err != nil || root != laid(t, a, leastLevel(s), s) {
			t.Fatalf("Build(%v) = %d, %v", s, root, err)
		}
	}
}

// P13.2: Cells of Build is the set, also if there are just as many as may be told.
func TestThereAndBack(t *testing.T) {
	r := rand.New(rand.NewSource(8))
	a := arena.New(1 << 22)
	for _, s := range anySets(r) {
		root, err := tree.Build(a, s)
		if err != nil {
			t.Fatal(err)
		}
		before := a.Len()
		for _, most := range []int{len(s), len(s) + 1, 1 << 31, math.MaxInt} {
			if back, err := tree.Cells(a, root, most); err != nil || !slices.Equal(back, s) {
				t.Fatalf("Cells of Build(%v) = %v, %v", s, back, err)
			}
		}
		for _, most := range []int{len(s) - 1, len(s) / 2, 0, -1, -1 << 32, math.MinInt} {
			back, err := tree.Cells(a, root, most)
			if most < 0 || most < len(s) {
				if len(back) != 0 || err != error(api.ErrBig) {
					t.Fatalf("Cells of %v, at most %d: %v, %v", s, most, back, err)
				}
			}
		}
		if a.Len() != before {
			t.Errorf("Cells made %d nodes", a.Len()-before)
		}
	}
}

// Cells of roots that were joined by hand: rising, each once, whichever kid of whichever kid they lie in.
func TestCells(t *testing.T) {
	r := rand.New(rand.NewSource(9))
	a := arena.New(1 << 22)
	for _, s := range anySets(r) {
		for _, level := range []int{leastLevel(s), min(leastLevel(s)+3, 44), 44} {
			root := laid(t, a, level, s)
			if l, err := tree.Cells(a, root, len(s)); err != nil || !slices.Equal(l, s) {
				t.Fatalf("Cells of level %d = %v, %v, not %v", level, l, err, s)
			}
		}
	}
	for level := 3; level <= 6; level++ {
		h := halfOf(level)
		l, err := tree.Cells(a, fullRoot(t, a, level), int(8*h*h))
		if err != nil || len(l) != int(8*h*h) || !slices.IsSortedFunc(l, cell.Compare) || l[0] != at(-h, -h, 0) || l[len(l)-1] != at(h-1, h-1, 1) {
			t.Errorf("level %d has %d cells, %v", level, len(l), err)
		}
	}
}

func TestCellsOfNone(t *testing.T) {
	a := arena.New(1000)
	for level := 3; level <= 44; level++ {
		root := laid(t, a, level, nil)
		for _, most := range []int{0, 1, math.MaxInt} {
			if l, err := tree.Cells(a, root, most); len(l) != 0 || err != nil {
				t.Errorf("Cells of none, at most %d: %v, %v", most, l, err)
			}
		}
		for _, most := range []int{-1, math.MinInt} {
			if l, err := tree.Cells(a, root, most); len(l) != 0 || err != error(api.ErrBig) {
				t.Errorf("Cells of none, at most %d: %v, %v", most, l, err)
			}
		}
	}
}

// More cells than could ever be told are refused at once.
func TestCellsOfTooMany(t *testing.T) {
	a := arena.New(1000)
	for level := 10; level <= 44; level++ {
		root := fullRoot(t, a, level)
		for _, most := range []int{-1, 0, 1 << 16, 1<<min(2*level+1, 62) - 1} {
			if l, err := tree.Cells(a, root, most); len(l) != 0 || err != error(api.ErrBig) {
				t.Errorf("Cells of level %d, at most %d: %d, %v", level, most, len(l), err)
			}
		}
	}
}

func TestCellsAreNewMemory(t *testing.T) {
	a := arena.New(1000)
	s := set.Of(at(0, 0, 0), at(3, 2, 1), at(-4, -4, 0))
	root := laid(t, a, 3, s)
	first, _ := tree.Cells(a, root, 3)
	second, _ := tree.Cells(a, root, 3)
	clear(first[:cap(first)])
	if third, _ := tree.Cells(a, root, 3); !slices.Equal(second, s) || !slices.Equal(third, s) {
		t.Errorf("%v, %v changed with another answer", second, third)
	}
}

func TestBox(t *testing.T) {
	r := rand.New(rand.NewSource(10))
	a := arena.New(1 << 22)
	sets := anySets(r)
	for x := int64(-8); x < 8; x++ {
		for y := int64(-8); y < 8; y++ {
			sets = append(sets, set.Of(at(x, y, 0)), set.Of(at(x, y, 1), at(y, x, 0)))
		}
	}
	for _, s := range sets {
		want, some := s.Box()
		for _, level := range []int{leastLevel(s), min(leastLevel(s)+1, 44), 44} {
			root := laid(t, a, level, s)
			before := a.Len()
			if b, ok := tree.Box(a, root); b != want || ok != some || a.Len() != before {
				t.Fatalf("Box of %v, of level %d = %v, %v", s, level, b, ok)
			}
		}
	}
}

// One node in more places than could ever be gone through.
func TestBoxOfVeryMany(t *testing.T) {
	a := arena.New(1000)
	for level := 3; level <= 44; level++ {
		h := halfOf(level)
		want := set.Box{Low: axis.Point{A: -h, B: -h}, High: axis.Point{A: h - 1, B: h - 1}}
		if b, ok := tree.Box(a, fullRoot(t, a, level)); !ok || b != want {
			t.Errorf("Box of level %d = %v, %v", level, b, ok)
		}
		// One cell of each leaf: of all of them the box is smaller by what lies around it there.
		i, err := a.Leaf(1 << 13)
		for err == nil && a.Level(i) < level {
			i, err = a.Join([4]uint32{i, i, i, i})
		}
		want = set.Box{Low: axis.Point{A: -h + 2, B: -h + 1}, High: axis.Point{A: h - 2, B: h - 3}}
		if b, ok := tree.Box(a, i); !ok || b != want {
			t.Errorf("Box of one of each leaf, of level %d = %v, %v, not %v", level, b, ok, want)
		}
	}
}

// P13.3: whatever way a root came to be, it is the same node, if the same cells live in it.
func TestOne(t *testing.T) {
	r := rand.New(rand.NewSource(11))
	a := arena.New(1 << 22)
	seen := map[uint32]set.Set{}
	for range 2000 {
		s := some(r, 2, r.Intn(4), axis.Point{}, 3)
		ways := []uint32{laid(t, a, 3, s), anyWay(t, r, a, s), anyWay(t, r, a, s)}
		built, err := tree.Build(a, s)
		if err != nil {
			t.Fatal(err)
		}
		for _, i := range ways {
			if i != built {
				t.Fatalf("%v is %d, and %d", s, built, i)
			}
		}
		if before, ok := seen[built]; ok && !before.Same(s) {
			t.Fatalf("%v and %v are both %d", before, s, built)
		}
		seen[built] = s
	}
}

// anyWay is the root of level 3 of a set, by cells that are put and put out again in any order.
func anyWay(t *testing.T, r *rand.Rand, a *arena.Arena, s set.Set) uint32 {
	t.Helper()
	others := some(r, 2, 5, axis.Point{}, 3)
	start := some(r, 2, 3, axis.Point{}, 3)
	root := laid(t, a, 3, start)
	for _, l := range []set.Set{others, start, s} {
		for _, k := range r.Perm(len(l)) {
			next, err := tree.Put(a, root, l[k], s.Has(l[k]) || r.Intn(2) == 0)
			if err != nil {
				t.Fatal(err)
			}
			root = next
		}
	}
	for _, l := range []set.Set{others, start} {
		for _, c := range l {
			next, err := tree.Put(a, root, c, s.Has(c))
			if err != nil {
				t.Fatal(err)
			}
			root = next
		}
	}
	return root
}

// K4: the same calls make the same nodes, under the same numbers, also where there is too little room.
func TestAlike(t *testing.T) {
	r := rand.New(rand.NewSource(12))
	s := some(r, 2, 300, axis.Point{A: 100, B: -1000}, 5000)
	for _, most := range []int{1 << 20, 700, 100} {
		first := arena.New(most)
		root, err := tree.Build(first, s)
		if (err == nil) != (most == 1<<20) {
			t.Fatal(err)
		}
		for range 20 {
			a := arena.New(most)
			again, errAgain := tree.Build(a, s)
			if again != root || a.Len() != first.Len() || (errAgain == nil) != (err == nil) {
				t.Fatalf("%d of %d, %v; and then %d of %d, %v", root, first.Len(), err, again, a.Len(), errAgain)
			}
			for i := range uint32(a.Len()) {
				if a.Level(i) != first.Level(i) || a.Bits(i) != first.Bits(i) || a.Kids(i) != first.Kids(i) {
					t.Fatalf("node %d isn't the same each time", i)
				}
			}
		}
	}
}

// Any calls on one arena with little room: answers are those of a set, or ErrBudget with no room left; and old roots stay as they are.
func TestAnyCalls(t *testing.T) {
	for seed := range int64(60) {
		r := rand.New(rand.NewSource(100 + seed))
		a := arena.New(64 + r.Intn(400))
		known := map[uint32]set.Set{}
		var roots []uint32
		take := func(i uint32, err error, level, room, before int, s set.Set) {
			t.Helper()
			if err != nil {
				if i != 0 || err != error(api.ErrBudget) || a.Len() != a.Most() || a.Most()-before >= room {
					t.Fatalf("%d, %v: %d nodes, ahead %d, of %d", i, err, a.Len(), before, a.Most())
				}
				return
			}
			if a.Level(i) != level || a.Len()-before > room {
				t.Fatalf("%d is of level %d, not %d; %d nodes more", i, a.Level(i), level, a.Len()-before)
			}
			if was, ok := known[i]; ok && !was.Same(s) {
				t.Fatalf("%d has %v, and had %v", i, s, was)
			}
			known[i], roots = s, append(roots, i)
		}
		for range 300 {
			before := a.Len()
			if len(roots) == 0 || r.Intn(4) == 0 {
				s := some(r, 2, r.Intn(6), axis.Point{}, 1<<r.Intn(6))
				i, err := tree.Build(a, s)
				take(i, err, leastLevel(s), len(s)*leastLevel(s)+64, before, s)
				continue
			}
			root := roots[r.Intn(len(roots))]
			level, s := a.Level(root), known[root]
			h := halfOf(level)
			c := at(r.Int63n(2*h)-h, r.Int63n(2*h)-h, r.Intn(2))
			if len(s) > 0 && r.Intn(2) == 0 {
				c = s[r.Intn(len(s))]
			}
			live := r.Intn(2) == 0
			if tree.Get(a, root, c) != s.Has(c) {
				t.Fatalf("Get(%v) of %v", c, s)
			}
			i, err := tree.Put(a, root, c, live)
			take(i, err, level, level+1, before, s.Put(c, live))
			cellsAndBox(t, a, root, s)
		}
	}
}

// cellsAndBox holds what is told of a root against its set.
func cellsAndBox(t *testing.T, a *arena.Arena, root uint32, s set.Set) {
	t.Helper()
	l, err := tree.Cells(a, root, len(s))
	if err != nil || !slices.Equal(l, s) {
		t.Fatalf("Cells of %v = %v, %v", s, l, err)
	}
	box, some := s.Box()
	if b, ok := tree.Box(a, root); b != box || ok != some {
		t.Fatalf("Box of %v = %v, %v", s, b, ok)
	}
}

// With as many nodes as there may be, what is there is still told, and so is a root whose nodes are all there.
func TestWithNoRoom(t *testing.T) {
	a := arena.New(1 << 20)
	s := set.Of(at(-8, 7, 0), at(0, 0, 1), at(7, -8, 0), at(3, 3, 0))
	root := laid(t, a, 4, s)
	less := laid(t, a, 4, s.Put(at(3, 3, 0), false))
	leave(t, a, 0)
	before := a.Len()
	for _, x := range []struct {
		s    set.Set
		want uint32
	}{{s, root}, {s.Put(at(3, 3, 0), false), less}} {
		if i, err := tree.Build(a, x.s); i != x.want || err != nil {
			t.Errorf("Build(%v) = %d, %v, not %d", x.s, i, err, x.want)
		}
		cellsAndBox(t, a, x.want, x.s)
	}
	if i, err := tree.Put(a, root, at(3, 3, 0), false); i != less || err != nil {
		t.Errorf("Put = %d, %v, not %d", i, err, less)
	}
	if i, err := tree.Put(a, less, at(3, 3, 0), true); i != root || err != nil {
		t.Errorf("Put = %d, %v, not %d", i, err, root)
	}
	if !tree.Get(a, root, at(3, 3, 0)) || tree.Get(a, less, at(3, 3, 0)) || a.Len() != before {
		t.Error("Get")
	}
	refused(t, a, api.ErrBudget, func() (uint32, error) { return tree.Put(a, root, at(2, 3, 0), true) })
	refused(t, a, api.ErrBudget, func() (uint32, error) { return tree.Put(a, root, at(0, 0, 1), false) })
	refused(t, a, api.ErrBudget, func() (uint32, error) { return tree.Build(a, set.Of(at(2, 3, 0))) })
	refused(t, a, api.ErrBudget, func() (uint32, error) { return tree.Build(a, set.Of(at(1<<40, 0, 0))) })
}

// No room is wanted where all nodes of the root are there, whoever made them.
func TestOfWhatIsThere(t *testing.T) {
	for _, s := range anySets(rand.New(rand.NewSource(14))) {
		a := arena.New(1 << 20)
		root := laid(t, a, leastLevel(s), s)
		leave(t, a, 0)
		if i, err := tree.Build(a, s); i != root || err != nil {
			t.Fatalf("Build(%v) = %d, %v, not %d", s, i, err, root)
		}
		if len(s) == 0 {
			continue
		}
		if i, err := tree.Put(a, root, s[len(s)/2], true); i != root || err != nil {
			t.Fatalf("Put in %v = %d, %v, not %d", s, i, err, root)
		}
	}
}

// An arena that wasn't made by New may have a few nodes, too.
func TestArenaThatWasNotMade(t *testing.T) {
	var a arena.Arena
	s := set.Of(at(1, 0, 0), at(-9, 0, 1))
	root, err := tree.Build(&a, s)
	if err != nil {
		t.Fatal(err)
	}
	cellsAndBox(t, &a, root, s)
}

// As many cells as a text may have, far apart: it ends soon.
func TestMany(t *testing.T) {
	r := rand.New(rand.NewSource(13))
	s := some(r, 2, api.MaxCells, axis.Point{}, api.MaxCoord)
	a := arena.New(1 << 23)
	root, err := tree.Build(a, s)
	if err != nil || a.Level(root) < 41 {
		t.Fatalf("Build is of level %d, %v", a.Level(root), err)
	}
	cellsAndBox(t, a, root, s)
}
