package jump_test

import (
	"math"
	"math/rand"
	"slices"
	"testing"

	"honeycomb/api"
	"honeycomb/arena"
	"honeycomb/axis"
	"honeycomb/block"
	"honeycomb/cell"
	"honeycomb/jump"
	"honeycomb/life"
	"honeycomb/set"
	"honeycomb/site"
	"honeycomb/square"
	"honeycomb/tree"
)

// The calls have just these signatures.
var (
	_ func(*life.Life, uint32, int) (uint32, error)                    = jump.Leap
	_ func(*life.Life, uint32, int) (uint32, error)                    = jump.Jump
	_ func(*life.Life, uint32, func(uint32) bool) (uint32, int, error) = jump.Steps
)

// rules are some of each lattice: by which all grows at once, by which little lives on, and by which the Halves differ.
var rules = []string{
	"B2/S34H", "B2o/S2mH", "B12/S123H", "B1/SH", "B/SH", "B3/S2H",
	"B12/S2E", "B1/S2:B2/S3E", "B1/S012E", "B/S:B123/SE",
	"B34/S45V", "B3/S:B4/S2V", "B1/S12V", "B45/S3456V",
}

// spreading are rules of each lattice by which cells are born of one.
var spreading = []string{"B1/S2H", "B123456/S0123456H", "B1/S2E", "B123/S0123E", "B1/S2V", "B123456789abc/S0123456789abcV"}

// Any number of generations, the first ones one by one, of roots of the least level and of greater ones.
func TestJump(t *testing.T) {
	r := rand.New(rand.NewSource(1))
	for _, text := range rules {
		l := alive(t, text)
		x := l.Kernel().Table()
		for level := 3; level <= 6; level++ {
			for _, s := range anySets(r, x.Lattice, level) {
				then := s
				for n := range 9 {
					is(t, l, then)(jump.Jump(l, built(t, l.Arena, s), n))
					is(t, l, then)(jump.Jump(l, wide(t, l.Arena, s, level+n), n))
					then = stepped(t, x, then, 1)
				}
			}
		}
	}
}

func TestJumpByAnyTables(t *testing.T) {
	r := rand.New(rand.NewSource(2))
	for i := range 90 {
		x := anyTable(r, cell.Lattice(i%3+1))
		l := living(t, x)
		for range 6 {
			s := some(r, x.Lattice, 1+r.Intn(30), 1+r.Int63n(40))
			for range 3 {
				n := r.Intn(14)
				is(t, l, stepped(t, x, s, n))(jump.Jump(l, wide(t, l.Arena, s, r.Intn(44)), n))
			}
		}
	}
}

// More generations than layer 8 is asked for elsewhere: of little that goes on for long, and of what grows.
func TestJumpFurther(t *testing.T) {
	r := rand.New(rand.NewSource(3))
	few, many := []int{15, 16, 17, 31, 32, 63, 64, 100, 127, 128, 150}, []int{15, 16, 17, 29, 32, 40}
	for _, x := range []struct {
		text    string
		numbers []int
	}{
		{"B2/S34H", few}, {"B2o/S2mH", few}, {"B2/S12E", few}, {"B1/S2:B2/S3E", few}, {"B45/S34V", few}, {"B3/S:B4/S2V", few},
		{"B12/S123H", many}, {"B2/S0123456H", many}, {"B12/S2E", many}, {"B34/S45V", many}, {"B45/S3456V", many}, {"B1/S12V", many},
	} {
		l := alive(t, x.text)
		for range 4 {
			s := some(r, l.Kernel().Table().Lattice, 30, 5)
			root, done, then := built(t, l.Arena, s), 0, s
			for _, n := range x.numbers {
				then, done = stepped(t, l.Kernel().Table(), then, n-done), n
				is(t, l, then)(jump.Jump(l, root, n))
			}
		}
	}
}

func TestLeap(t *testing.T) {
	r := rand.New(rand.NewSource(4))
	for _, text := range rules {
		l := alive(t, text)
		x := l.Kernel().Table()
		for _, level := range []int{3, 4, 5, 7} {
			for _, s := range anySets(r, x.Lattice, level) {
				if len(s) > 20 {
					continue // layer 8 would take too long
				}
				then, done := s, 0
				for exp := range 5 {
					then, done = stepped(t, x, then, 1<<exp-done), 1<<exp
					is(t, l, then)(jump.Leap(l, built(t, l.Arena, s), exp))
					is(t, l, then)(jump.Leap(l, wide(t, l.Arena, s, 9), exp))
				}
			}
		}
	}
}

// One cell at each point of a small root's square, and at each one at the edge of a greater one: what is born outside is in the answer.
func TestCellsAtTheEdge(t *testing.T) {
	for _, text := range spreading {
		l := alive(t, text)
		x := l.Kernel().Table()
		for _, level := range []int{3, 4, 5, 6} {
			h := halfOf(level)
			for a := -h; a < h; a++ {
				for _, c := range []cell.Cell{at(a, -h, 0), at(a, h-1, 1), at(-h, a, 1), at(h-1, a, 0), at(a, a%5, 0)} {
					if x.Lattice == api.Hex {
						c.Half = 0
					}
					s := set.Of(c)
					for exp := range 3 {
						is(t, l, stepped(t, x, s, 1<<exp))(jump.Leap(l, wide(t, l.Arena, s, level), exp))
					}
					is(t, l, stepped(t, x, s, 3))(jump.Jump(l, wide(t, l.Arena, s, level), 3))
				}
			}
		}
	}
}

// As far away as a root has room for it, at each side and corner of its square: there all goes on as around the origin.
func TestCellsFarAway(t *testing.T) {
	for _, text := range spreading {
		l := alive(t, text)
		x := l.Kernel().Table()
		for half := range x.Lattice.Halves() {
			near := set.Of(at(0, 0, half))
			for _, level := range []int{7, 20, 40, 41, 42} {
				h := halfOf(level)
				for _, p := range [][2]int64{{h - 1, h - 1}, {-h, -h}, {h - 1, -h}, {-h, h - 1}, {-h, 5}, {7, h - 1}} {
					root := built(t, l.Arena, moved(near, p[0], p[1]))
					for exp := range 3 {
						is(t, l, moved(stepped(t, x, near, 1<<exp), p[0], p[1]))(jump.Leap(l, root, exp))
					}
					for n := 3; n < 6 && level < 42; n++ {
						is(t, l, moved(stepped(t, x, near, n), p[0], p[1]))(jump.Jump(l, root, n))
					}
				}
			}
		}
	}
}

// What comes again, after each number of bits, up to MaxJump.
func TestJumpOfWhatComesAgain(t *testing.T) {
	r := rand.New(rand.NewSource(5))
	for _, g := range comers() {
		l := alive(t, g.text)
		numbers := []int{0, 1, 2, 3, 1000, 1024, api.MaxJump - 1, api.MaxJump}
		for exp := range 20 {
			numbers = append(numbers, 1<<exp, 1<<exp+r.Intn(1<<exp))
		}
		for _, n := range numbers {
			is(t, l, g.after(t, n))(jump.Jump(l, built(t, l.Arena, g.cells), n))
			is(t, l, g.after(t, n))(jump.Jump(l, wide(t, l.Arena, g.cells, 3+r.Intn(42)), n))
		}
	}
}

// And so does a leap, as far as there is room for it.
func TestLeapOfWhatComesAgain(t *testing.T) {
	for _, g := range comers() {
		l := alive(t, g.text)
		root := built(t, l.Arena, g.cells)
		for exp := range 42 {
			is(t, l, g.after(t, 1<<exp))(jump.Leap(l, root, exp))
		}
	}
}

// By this rule a hexagon lives, if an odd number of those beside it did: of one become, in n generations, the six that are n points away, if n is a power of two.
func TestLeapAsFarAsAnyGets(t *testing.T) {
	l := alive(t, "B135/S135H")
	for _, c := range []cell.Cell{at(0, 0, 0), at(-1, 3, 0), at(1<<20, -1<<30, 0), at(1<<40, 1<<40, 0), at(-1<<40, 0, 0), at(1<<41-1, -1<<41, 0)} {
		for exp := range 42 {
			n := int64(1) << exp
			var then set.Set
			for _, p := range [][2]int64{{1, 0}, {0, 1}, {-1, 1}, {-1, 0}, {0, -1}, {1, -1}} {
				then = then.Put(at(c.At.A+n*p[0], c.At.B+n*p[1], 0), true)
			}
			is(t, l, then)(jump.Leap(l, built(t, l.Arena, set.Of(c)), exp))
			if exp <= 20 {
				is(t, l, then)(jump.Jump(l, built(t, l.Arena, set.Of(c)), 1<<exp))
			}
		}
	}
}

// Jumps one behind the other are one of all generations, of more cells than layer 8 can step.
func TestOneBehindTheOther(t *testing.T) {
	r := rand.New(rand.NewSource(6))
	for _, text := range []string{"B2/S34H", "B2o/S2mH", "B12/S2E", "B1/S2:B2/S3E", "B34/S45V", "B3/S:B4/S2V", "B45/S3456V"} {
		l := alive(t, text)
		for range 8 {
			root := built(t, l.Arena, some(r, l.Kernel().Table().Lattice, 15, 6))
			numbers := []int{r.Intn(60), r.Intn(20), 0, 1, r.Intn(9)}
			then, all := root, 0
			for _, n := range numbers {
				then, all = answered(t)(jump.Jump(l, then, n)), all+n
				if one := answered(t)(jump.Jump(l, root, all)); one != then {
					t.Fatalf("%s: by %v: %d, and by %d: %d", text, numbers, then, all, one)
				}
			}
		}
	}
}

// The seventh example of the whole.
func TestOneOf1024(t *testing.T) {
	for _, text := range []string{"B2/S34H", "B2o/S2mH", "B1/S2:B2/S3E", "B45/S34V"} {
		l := alive(t, text)
		root := built(t, l.Arena, set.Of(at(0, 0, 0), at(1, 0, 0), at(1, 2, 0), at(0, 1, 0), at(-1, 2, 0)))
		two := answered(t)(jump.Jump(l, answered(t)(jump.Jump(l, root, 1000)), 24))
		if one, leap := answered(t)(jump.Jump(l, root, 1024)), answered(t)(jump.Leap(l, root, 10)); one != two || leap != two {
			t.Errorf("%s: two jumps %d, one %d, a leap %d", text, two, one, leap)
		}
	}
}

// Example 1 of the chapter: by 0 it is Trim of the root, of any level, also where there is no root above.
func TestJumpByNone(t *testing.T) {
	r := rand.New(rand.NewSource(7))
	for _, text := range []string{"B2/S34H", "B1/S2:B2/S3E", "B34/S45V"} {
		l := alive(t, text)
		for level := 3; level <= 44; level++ {
			for _, s := range anySets(r, l.Kernel().Table().Lattice, min(level, 41)) {
				root := wide(t, l.Arena, s, level)
				is(t, l, s)(jump.Jump(l, root, 0))
			}
		}
		far := set.Of(at(1<<43-1, -1<<43, 0))
		is(t, l, far)(jump.Jump(l, built(t, l.Arena, far), 0))
	}
}

// Leaves, and numbers that aren't there, by any number; and that is ahead of no room.
func TestOfNoRoot(t *testing.T) {
	l := alive(t, "B2/S34H")
	f := answered(t)(l.Leaf(0x55555555))
	full(t, l.Arena, 6, 0x55555555)
	for range 2 {
		n := uint32(l.Len())
		for _, i := range []uint32{0, f, n, n + 1, 1 << 31, math.MaxUint32} {
			for _, exp := range []int{math.MinInt, -1, 0, 1, 5, 41, 42, 44, math.MaxInt} {
				unchanged(t, l, func() { refused(t, api.ErrArg)(jump.Leap(l, i, exp)) })
				unchanged(t, l, func() { refused(t, api.ErrArg)(jump.Jump(l, i, exp)) })
			}
			unchanged(t, l, func() { none(t, l, i, api.ErrArg) })
			unchanged(t, l, func() { refused(t, api.ErrArg)(jump.Jump(l, i, api.MaxJump+1)) })
		}
		leave(t, l.Arena, 0)
	}
}

// No number below 0, nor one of more generations than MaxJump, whatever the root; and that is ahead of all else.
func TestNumbersThatMayNotBe(t *testing.T) {
	l := alive(t, "B2/S34H")
	roots := []uint32{built(t, l.Arena, nil), wide(t, l.Arena, nil, 44), wide(t, l.Arena, set.Of(at(0, 0, 0), at(1, 0, 0)), 9), built(t, l.Arena, set.Of(at(1<<43-1, 0, 0)))}
	for range 2 {
		for _, root := range roots {
			for _, n := range []int{math.MinInt, math.MinInt + 1, -1 << 32, -2, -1} {
				unchanged(t, l, func() { refused(t, api.ErrArg)(jump.Leap(l, root, n)) })
				unchanged(t, l, func() { refused(t, api.ErrArg)(jump.Jump(l, root, n)) })
			}
			for _, n := range []int{api.MaxJump + 1, api.MaxJump + 2, 2 * api.MaxJump, 1 << 32, 1 << 62, math.MaxInt} {
				unchanged(t, l, func() { refused(t, api.ErrArg)(jump.Jump(l, root, n)) })
			}
		}
		leave(t, l.Arena, 0)
	}
}

// Where no cell lives there is none, however many generations on, and there is always room for that.
func TestOfNoCells(t *testing.T) {
	l := alive(t, "B2/S34H")
	want := built(t, l.Arena, nil)
	var roots []uint32
	for level := 3; level <= 44; level++ {
		roots = append(roots, answered(t)(l.Empty(level)))
	}
	leave(t, l.Arena, 0)
	for _, root := range roots {
		for _, n := range []int{0, 1, 2, 39, 40, 41, 42, 43, 44, 63, 64, 65, 1 << 20, math.MaxInt - 1, math.MaxInt} {
			if i, err := jump.Leap(l, root, n); i != want || err != nil || l.Level(i) != 3 {
				t.Errorf("Leap of none by %d = %d, %v", n, i, err)
			}
			if i, err := jump.Jump(l, root, min(n, api.MaxJump)); i != want || err != nil {
				t.Errorf("Jump of none by %d = %d, %v", n, i, err)
			}
		}
	}
}

// Just where the level, or exp and 1, and 2 is above MaxLevel; of the level of Trim, whatever the root's own is.
func TestDepth(t *testing.T) {
	stay := alive(t, "B/S0H")
	for level := 3; level <= 44; level++ {
		h := halfOf(level)
		for _, s := range []set.Set{set.Of(at(h-1, 0, 0)), set.Of(at(0, -h, 0)), set.Of(at(-h, h-1, 0), at(0, 0, 0))} {
			for _, root := range []uint32{built(t, stay.Arena, s), wide(t, stay.Arena, s, min(level+1, 44)), wide(t, stay.Arena, s, 44)} {
				for _, exp := range []int{0, 1, 2, 19, 39, 40, 41, 42, 43, 44, 45, 62, 63, 64, 1 << 32, math.MaxInt - 2, math.MaxInt - 1, math.MaxInt} {
					if level > 42 || exp > 41 {
						unchanged(t, stay, func() { refused(t, api.ErrDepth)(jump.Leap(stay, root, exp)) })
						continue
					}
					is(t, stay, s)(jump.Leap(stay, root, exp))
				}
				if level > 42 {
					unchanged(t, stay, func() { refused(t, api.ErrDepth)(jump.Jump(stay, root, 1)) })
					unchanged(t, stay, func() { refused(t, api.ErrDepth)(jump.Jump(stay, root, api.MaxJump)) })
					unchanged(t, stay, func() { none(t, stay, root, api.ErrDepth) })
				} else {
					is(t, stay, s)(jump.Jump(stay, root, api.MaxJump-1))
				}
			}
		}
	}
}

// It is ahead of no room, and where it is told no node is made: a root of which Trim isn't there isn't trimmed.
func TestDepthIsAheadOfNoRoom(t *testing.T) {
	h := halfOf(43)
	for _, c := range []cell.Cell{at(h-1, 0, 0), at(-h, -h, 0), at(3, h/2, 0), at(2*h-1, 5, 0)} {
		l := alive(t, "B2/S34H")
		// Cell by cell from the greatest root down: no smaller one is made.
		root := answered(t)(l.Empty(44))
		for _, c := range []cell.Cell{c, at(0, 0, 0)} {
			root = answered(t)(tree.Put(l.Arena, root, c, true))
		}
		for range 2 {
			unchanged(t, l, func() { refused(t, api.ErrDepth)(jump.Leap(l, root, 0)) })
			unchanged(t, l, func() { refused(t, api.ErrDepth)(jump.Leap(l, root, 42)) })
			unchanged(t, l, func() { refused(t, api.ErrDepth)(jump.Jump(l, root, 7)) })
			unchanged(t, l, func() { none(t, l, root, api.ErrDepth) })
			leave(t, l.Arena, 0)
		}
		i, err := jump.Jump(l, root, 0)
		if c.At.A < h {
			refused(t, api.ErrBudget)(i, err) // it wants Trim
		} else if i != root || err != nil {
			t.Errorf("Jump by 0 = %d, %v", i, err)
		}
	}
	// exp alone is too great, and Trim isn't there, either.
	l := alive(t, "B2/S34H")
	root := answered(t)(tree.Put(l.Arena, answered(t)(l.Empty(20)), at(0, 0, 0), true))
	leave(t, l.Arena, 0)
	unchanged(t, l, func() { refused(t, api.ErrDepth)(jump.Leap(l, root, 42)) })
	unchanged(t, l, func() { refused(t, api.ErrBudget)(jump.Leap(l, root, 41)) })
}

// More cells than are counted: Trim leaves such a root as it is, and so its own level tells.
func TestMoreCellsThanAreCounted(t *testing.T) {
	for _, text := range []string{"B/S0123456H", "B/S0123456789abcV"} {
		l := alive(t, text)
		f := site.Leaf(0x55555555)
		if l.Kernel().Table().Lattice == api.Vertex {
			f = math.MaxUint32
		}
		for _, level := range []int{31, 32, 41, 42} {
			root := full(t, l.Arena, level, f)
			i := answered(t)(jump.Leap(l, root, 0))
			if again := answered(t)(square.Fit(l.Arena, root, l.Level(i))); i != again {
				t.Errorf("%s: of all of level %d: %d of level %d, not %d", text, level, i, l.Level(i), again)
			}
			for _, above := range []int{43, 44} {
				great := answered(t)(square.Fit(l.Arena, root, above))
				if l.Count(great) < arena.MostCount {
					t.Fatalf("%d cells", l.Count(great))
				}
				unchanged(t, l, func() { refused(t, api.ErrDepth)(jump.Leap(l, great, 0)) })
			}
		}
		// Of one cell fewer than that many Trim is told again.
		less := answered(t)(tree.Put(l.Arena, full(t, l.Arena, 30, f), at(3, 4, 0), false))
		if i := answered(t)(jump.Leap(l, answered(t)(square.Fit(l.Arena, less, 44)), 3)); i != less {
			t.Errorf("%s: of nearly all of level 30: %d of level %d", text, i, l.Level(i))
		}
	}
}

// A jump is refused by the first of its leaps for which there is no root: what gets outside on the way counts.
func TestDepthOnTheWay(t *testing.T) {
	l := alive(t, "B123456/S0123456H")
	h := halfOf(42)
	for away := range int64(9) {
		root := built(t, l.Arena, set.Of(at(h-1-away, 0, 0)))
		for n := range 32 {
			// The leap that is the last one starts from what the others came to.
			ahead := 0
			if n > 0 {
				for exp := 1; n >= 2*exp; exp *= 2 {
					ahead += n & exp
				}
			}
			i, err := jump.Jump(l, root, n)
			if int64(ahead) > away {
				refused(t, api.ErrDepth)(i, err)
			} else if err != nil || l.Count(i) != uint64(1+3*n*(n+1)) {
				t.Errorf("%d away, by %d: %d cells, %v", away, n, l.Count(i), err)
			}
		}
	}
}

// Bits of Half 1 are no hexagons: by 0 they stay, as Trim has them, else they go.
func TestHalfOneOfHexagons(t *testing.T) {
	r := rand.New(rand.NewSource(8))
	l := alive(t, "B12/S123H")
	for range 40 {
		all := some(r, api.Edge, 30, 9)
		var hexagons set.Set
		for _, c := range all {
			if c.Half == 0 {
				hexagons = append(hexagons, c)
			}
		}
		is(t, l, all)(jump.Jump(l, wide(t, l.Arena, all, 8), 0))
		for n := 1; n < 6; n++ {
			is(t, l, stepped(t, l.Kernel().Table(), hexagons, n))(jump.Jump(l, built(t, l.Arena, all), n))
		}
	}
	is(t, l, nil)(jump.Leap(l, built(t, l.Arena, set.Of(at(5, 5, 1))), 7))
}

// Nodes that were there stay as they are.
func TestNodesStay(t *testing.T) {
	r := rand.New(rand.NewSource(9))
	type node struct {
		level int
		bits  site.Leaf
		kids  [4]uint32
		count uint64
	}
	l := alive(t, "B2/S34H")
	root := wide(t, l.Arena, some(r, 1, 200, 60), 9)
	var nodes []node
	for i := range uint32(l.Len()) {
		nodes = append(nodes, node{l.Level(i), l.Bits(i), l.Kids(i), l.Count(i)})
	}
	answered(t)(jump.Jump(l, root, 77))
	answered(t)(jump.Leap(l, root, 5))
	jump.Steps(l, root, func(uint32) bool { return l.Len()%7 > 0 })
	for i, want := range nodes {
		i := uint32(i)
		if n := (node{l.Level(i), l.Bits(i), l.Kids(i), l.Count(i)}); n != want {
			t.Fatalf("node %d is %v, not %v", i, n, want)
		}
	}
}

// The same calls, the same nodes.
func TestAlike(t *testing.T) {
	told := func() []uint32 {
		r := rand.New(rand.NewSource(10))
		l := alive(t, "B34/S45V")
		var all []uint32
		for range 30 {
			root := wide(t, l.Arena, some(r, 3, 20, 9), r.Intn(12))
			all = append(all, answered(t)(jump.Jump(l, root, r.Intn(20))), answered(t)(jump.Leap(l, root, r.Intn(4))), uint32(l.Len()), uint32(l.Known()))
			if r.Intn(5) == 0 {
				l.Forget()
			}
		}
		return all
	}
	first := told()
	for range 3 {
		if again := told(); !slices.Equal(again, first) {
			t.Fatalf("%v, and then %v", first, again)
		}
	}
}

// What was made ahead, and what is known, doesn't show: asked again, behind Forget, and of another life, it is the same node.
func TestAgain(t *testing.T) {
	r := rand.New(rand.NewSource(11))
	for _, text := range rules {
		l := alive(t, text)
		other := life.New(l.Arena, l.Kernel())
		for range 10 {
			root, n := built(t, l.Arena, some(r, l.Kernel().Table().Lattice, 12, 7)), r.Intn(40)
			want := answered(t)(jump.Jump(l, root, n))
			unchanged(t, l, func() {
				if i := answered(t)(jump.Jump(l, root, n)); i != want {
					t.Errorf("%s: again: %d, not %d", text, i, want)
				}
			})
			if i := answered(t)(jump.Jump(other, root, n)); i != want {
				t.Errorf("%s: of another life: %d, not %d", text, i, want)
			}
			l.Forget()
			if i := answered(t)(jump.Jump(l, root, n)); i != want {
				t.Errorf("%s: behind Forget: %d, not %d", text, i, want)
			}
		}
	}
}

// A life that New didn't make, but with an arena, or one of a kernel that New didn't make: by it nothing lives.
func TestLivesThatWereNotMade(t *testing.T) {
	for _, l := range []*life.Life{{Arena: arena.New(1000)}, life.New(arena.New(1000), &block.Kernel{}), {Arena: &arena.Arena{}}} {
		root := built(t, l.Arena, set.Of(at(0, 0, 0), at(1, 0, 0)))
		for _, n := range []int{1, 2, 5} {
			if i, err := jump.Jump(l, root, n); err != nil || l.Level(i) != 3 || l.Count(i) != 0 {
				t.Errorf("Jump by %d: %d of level %d, %d live, %v", n, i, l.Level(i), l.Count(i), err)
			}
		}
		if i, err := jump.Jump(l, root, 0); i != root || err != nil {
			t.Errorf("Jump by 0 = %d, %v", i, err)
		}
		if i, n, err := jump.Steps(l, root, func(uint32) bool { return false }); n != 1 || l.Count(i) != 0 || err != nil {
			t.Errorf("Steps = %d, %d, %v", i, n, err)
		}
	}
	l := &life.Life{Arena: &arena.Arena{}}
	refused(t, api.ErrArg)(jump.Leap(l, 0, 0))
	refused(t, api.ErrArg)(jump.Jump(l, 1, 0))
	none(t, l, 0, api.ErrArg)
}

// All six around: it is known by hand.
func TestByHand(t *testing.T) {
	l := alive(t, "B2/SH")
	is(t, l, set.Of(at(1, -1, 0), at(0, 1, 0)))(jump.Jump(l, built(t, l.Arena, set.Of(at(0, 0, 0), at(1, 0, 0))), 1))
	one := alive(t, "B1/SH")
	var six set.Set
	for _, p := range axis.Six() {
		six = six.Put(cell.Cell{At: p}, true)
	}
	is(t, one, six)(jump.Leap(one, built(t, one.Arena, set.Of(at(0, 0, 0))), 0))
}
