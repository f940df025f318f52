package life_test

import (
	"math"
	"math/rand"
	"slices"
	"testing"

	"honeycomb/api"
	"honeycomb/arena"
	"honeycomb/block"
	"honeycomb/cell"
	"honeycomb/flat"
	"honeycomb/life"
	"honeycomb/set"
	"honeycomb/site"
	"honeycomb/square"
	"honeycomb/tree"
)

// The calls have just these signatures.
var (
	_ func(*arena.Arena, *block.Kernel) *life.Life  = life.New
	_ func(*life.Life) *block.Kernel                = (*life.Life).Kernel
	_ func(*life.Life) int                          = (*life.Life).Known
	_ func(*life.Life)                              = (*life.Life).Forget
	_ func(*life.Life, uint32, int) (uint32, error) = (*life.Life).Result
	_ func(*life.Life, [4]uint32) (uint32, error)   = (*life.Life).Join
	_ func(*life.Life, site.Leaf) (uint32, error)   = (*life.Life).Leaf
	_ [1 << 14]struct{}                             = [life.MostLeaves]struct{}{}
)

const full = site.Leaf(math.MaxUint32)

// rules are some of each lattice: by which all grows at once, by which little lives on, and by which the Halves differ.
var rules = []string{
	"B2/S34H", "B2o/S2mH", "B12/S123H", "B1/SH", "B/SH", "B3/S2H",
	"B12/S2E", "B1/S2:B2/S3E", "B1/S012E", "B/S:B123/SE",
	"B34/S45V", "B3/S:B4/S2V", "B1/S12V", "B45/S3456V",
}

// lattices have one rule each here by which cells are born of one.
var lattices = []string{"B1/S2H", "B1/S2E", "B1/S2V"}

func TestNew(t *testing.T) {
	for _, text := range rules {
		k := kernel(t, parsed(t, text))
		a := arena.New(500)
		root := laid(t, a, 5, edges(k.Table().Lattice, 5))
		n := a.Len()
		l := life.New(a, k)
		if l.Known() != 0 || l.Kernel() != k || l.Kernel().Table() != parsed(t, text) {
			t.Errorf("%s: %d known, the table %v", text, l.Known(), l.Kernel().Table())
		}
		if l.Arena != a || l.Len() != n || l.Most() != 500 || l.Level(root) != 5 || l.Kids(root) != a.Kids(root) || l.Count(root) != a.Count(root) {
			t.Errorf("%s: another arena, with %d of %d nodes", text, l.Len(), l.Most())
		}
	}
}

// The kernel stays the life's own, whatever is asked.
func TestKernel(t *testing.T) {
	k := kernel(t, parsed(t, "B2/S34H"))
	l := life.New(arena.New(1000), k)
	root := laid(t, l.Arena, 5, edges(1, 4))
	for range 3 {
		l.Result(root, 3)
		l.Result(root, 9)
		l.Forget()
		if l.Kernel() != k || k.Table() != parsed(t, "B2/S34H") {
			t.Fatalf("Kernel = %v", l.Kernel().Table())
		}
	}
}

// Leaves, and numbers that aren't there, with any exp; and that is ahead of no room.
func TestOfLeavesAndNone(t *testing.T) {
	l := alive(t, "B2/S34H")
	f := answered(t)(l.Leaf(full))
	fullNode(t, l.Arena, 6, full)
	for range 2 {
		n := uint32(l.Len())
		for _, i := range []uint32{0, f, n, n + 1, 1 << 31, math.MaxUint32} {
			for _, exp := range []int{math.MinInt, -1, 0, 1, 2, 3, 42, 43, math.MaxInt} {
				refused(t, l, api.ErrArg, i, exp)
			}
		}
		leave(t, l.Arena, 0)
	}
}

// Of each level the least and the greatest exp are answered, and one less and one more aren't; and that is ahead of no room.
func TestExp(t *testing.T) {
	l := alive(t, "B2/S34H")
	for level := 3; level <= 44; level++ {
		for _, root := range []uint32{laid(t, l.Arena, level, nil), laid(t, l.Arena, level, set.Of(at(0, 0, 0))), fullNode(t, l.Arena, level, 0x55555555)} {
			for _, exp := range []int{0, level - 2} {
				if i := answered(t)(l.Result(root, exp)); l.Level(i) != level-1 {
					t.Errorf("Result by %d of level %d is of level %d", exp, level, l.Level(i))
				}
			}
			for _, exp := range []int{math.MinInt, -1 << 32, -2, -1, level - 1, level, level + 1, 63, 64, 65, 1 << 31, 1 << 32, 1<<32 + 1, 1 << 62, math.MaxInt} {
				refused(t, l, api.ErrArg, root, exp)
			}
		}
	}
	leave(t, l.Arena, 0)
	root := fullNode(t, l.Arena, 9, 0x55555555)
	for _, exp := range []int{-1, 8, 1 << 32, math.MaxInt} {
		refused(t, l, api.ErrArg, root, exp)
	}
}

// Example 1 of the chapter, for each level, and each time.
func TestOfNoCells(t *testing.T) {
	for _, text := range rules {
		l := alive(t, text)
		asked := 0
		for level := 3; level <= 44; level++ {
			root, want := laid(t, l.Arena, level, nil), answered(t)(l.Empty(level-1))
			n := l.Len()
			for exp := 0; exp <= level-2; exp++ {
				if i, err := l.Result(root, exp); i != want || err != nil {
					t.Fatalf("%s: Result of none of level %d by %d = %d, %v, not %d", text, level, exp, i, err, want)
				}
				asked++
				if l.Known() < asked {
					t.Fatalf("%s: %d known, but %d were asked", text, l.Known(), asked)
				}
			}
			if l.Len() != n {
				t.Errorf("%s: %d nodes made for none", text, l.Len()-n)
			}
		}
	}
}

// LIFE: each time of each small level, by rules and by any tables of each lattice.
func TestResult(t *testing.T) {
	r := rand.New(rand.NewSource(1))
	for _, text := range rules {
		x := parsed(t, text)
		l := life.New(arena.New(1<<22), kernel(t, x))
		for level := 3; level <= 6; level++ {
			for _, s := range anySets(r, x.Lattice, level) {
				holdsAll(t, l, s, level)
			}
		}
	}
}

func TestResultByAnyTables(t *testing.T) {
	r := rand.New(rand.NewSource(2))
	for i := range 60 {
		x := anyTable(r, cell.Lattice(i%3+1))
		l := life.New(arena.New(1<<22), kernel(t, x))
		for level := 3; level <= 5; level++ {
			for range 5 {
				holdsAll(t, l, some(r, x.Lattice, 1+r.Intn(int(halfOf(level)*halfOf(level))), halfOf(level)-1), level)
			}
		}
	}
}

// Greater squares, where little enough lives for layer 8.
func TestResultOfGreaterLevels(t *testing.T) {
	r := rand.New(rand.NewSource(3))
	for _, text := range []string{"B2/S34H", "B2o/S2mH", "B12/S2E", "B1/S2:B2/S3E", "B34/S45V", "B3/S:B4/S2V"} {
		x := parsed(t, text)
		l := life.New(arena.New(1<<22), kernel(t, x))
		for _, level := range []int{7, 8, 11, 40} {
			for _, s := range []set.Set{some(r, x.Lattice, 12, 5), some(r, x.Lattice, 20, 30), edges(x.Lattice, level)} {
				for _, exp := range []int{0, 1, 2, 3, 4, 5} {
					holds(t, l, s, level, exp)
				}
			}
		}
		for exp := 6; exp >= 0; exp-- {
			holds(t, l, some(r, x.Lattice, 10, 4), 8, exp)
		}
	}
}

// One cell at each point of the square and of each Half, its edge and that of its middle among them.
func TestResultOfEachCell(t *testing.T) {
	for _, text := range lattices {
		x := parsed(t, text)
		l := life.New(arena.New(1<<22), kernel(t, x))
		for level := 3; level <= 5; level++ {
			h := halfOf(level)
			for a := -h; a < h; a++ {
				for b := -h; b < h; b++ {
					for half := range x.Lattice.Halves() {
						holdsAll(t, l, set.Of(at(a, b, half)), level)
					}
				}
			}
		}
	}
}

// Just outside of the middle: what lives there gets in, one point a generation, and no further.
func TestResultAtTheEdgeOfTheMiddle(t *testing.T) {
	// All cells beside one that lives are born, and none dies.
	for _, text := range []string{"B123456/S0123456H", "B123/S0123E"} {
		x := parsed(t, text)
		l := life.New(arena.New(1<<22), kernel(t, x))
		for level := 4; level <= 7; level++ {
			for exp := 0; exp <= level-2; exp++ {
				q, n := halfOf(level)/2, int64(1)<<exp
				for _, away := range []int64{1, n - 1, n, n + 1} {
					if away < 1 || away > q {
						continue
					}
					for _, c := range []cell.Cell{at(q-1+away, 0, 0), at(-q-away, 0, 0), at(0, q-1+away, 0), at(0, -q-away, 0)} {
						i := holds(t, l, set.Of(c), level, exp)
						if x.Lattice == api.Hex && (l.Count(i) > 0) != (away <= n) {
							t.Errorf("%s: %v, %d away, after %d: %d live", text, c, away, n, l.Count(i))
						}
					}
				}
			}
		}
	}
}

// What lives outside of the square doesn't count.
func TestOutside(t *testing.T) {
	r := rand.New(rand.NewSource(4))
	for _, text := range rules {
		x := parsed(t, text)
		l := life.New(arena.New(1<<22), kernel(t, x))
		for level := 3; level <= 6; level++ {
			h := halfOf(level)
			for range 7 - level {
				all := some(r, x.Lattice, int(h*h), 2*h-1)
				holdsWith(t, l, all, all, level)
			}
		}
	}
}

// By these rules a cell lives, if an odd number of those beside it did. So of one hexagon six become, in n generations, each n points away, if n is a power of two;
// and of one triangle in two generations itself and six of its Half, and so in n, each half of n away.
func TestFarOn(t *testing.T) {
	for _, text := range []string{"B135/S135H", "B13/S13E"} {
		x := parsed(t, text)
		for _, level := range []int{3, 4, 5, 6, 9, 17, 30, 43, 44} {
			q := halfOf(level) / 2
			for _, exp := range []int{0, 1, 2, level / 2, level - 4, level - 3, level - 2} {
				if exp < 0 || exp > level-2 || x.Lattice == api.Edge && exp == 0 {
					continue
				}
				l := life.New(arena.New(1<<22), kernel(t, x))
				for _, c := range []cell.Cell{at(0, 0, 0), at(-1, 2, 0), at(q/2, -q/2, 0), at(-q, q-1, 0), at(q, 0, 0), at(-2*q, 0, 0), at(0, 2*q-1, 0)} {
					var then set.Set
					n := int64(1) << exp
					if x.Lattice == api.Edge {
						then, n = set.Of(c), n/2
					}
					for _, p := range [][2]int64{{1, 0}, {0, 1}, {-1, 1}, {-1, 0}, {0, -1}, {1, -1}} {
						then = then.Put(at(c.At.A+n*p[0], c.At.B+n*p[1], 0), true)
					}
					i := answered(t)(l.Result(laid(t, l.Arena, level, set.Of(c)), exp))
					if want := laid(t, l.Arena, level-1, then); i != want {
						got, _ := tree.Cells(l.Arena, i, 100)
						t.Fatalf("%s: Result of %v, of level %d, by %d = %v", text, c, level, exp, got)
					}
				}
			}
		}
	}
}

// By a rule by which all stay, and none is born, each result is the square in the middle, and by one by which none stays nothing.
func TestAllStayOrNone(t *testing.T) {
	r := rand.New(rand.NewSource(5))
	for _, x := range []struct{ stay, die string }{{"B/S0123456H", "B/SH"}, {"B/S0123E", "B/SE"}, {"B/S0123456789abcV", "B/SV"}} {
		stay, die := alive(t, x.stay), alive(t, x.die)
		lattice := stay.Kernel().Table().Lattice
		for _, level := range []int{3, 4, 5, 6, 7, 8, 13, 22, 43, 44} {
			for _, s := range []set.Set{edges(lattice, level), some(r, lattice, 30, halfOf(level)-1), some(r, lattice, 9, 4)} {
				for _, exp := range []int{0, 1, level / 2, level - 3, level - 2} {
					if exp < 0 || exp > level-2 {
						continue
					}
					root := laid(t, stay.Arena, level, s)
					if i, want := answered(t)(stay.Result(root, exp)), answered(t)(square.Centre(stay.Arena, root)); i != want {
						t.Fatalf("%s: Result of level %d by %d = %d, not %d", x.stay, level, exp, i, want)
					}
					root = laid(t, die.Arena, level, s)
					if i := answered(t)(die.Result(root, exp)); i != answered(t)(die.Empty(level-1)) {
						t.Fatalf("%s: Result of level %d by %d: %d live", x.die, level, exp, die.Count(i))
					}
				}
			}
		}
	}
}

// Twice as many generations are those of what comes of the first ones: of squares too great for layer 8.
func TestTwice(t *testing.T) {
	r := rand.New(rand.NewSource(6))
	for _, text := range []string{"B2/S34H", "B2o/S2mH", "B1/S2:B2/S3E", "B34/S45V"} {
		l := alive(t, text)
		for _, level := range []int{7, 8, 9} {
			s := some(r, l.Kernel().Table().Lattice, int(halfOf(level)*halfOf(level)/10), halfOf(level)-1)
			root := laid(t, l.Arena, level, s)
			for exp := range level - 2 {
				one := answered(t)(l.Result(answered(t)(l.Result(root, exp)), exp))
				both := answered(t)(square.Centre(l.Arena, answered(t)(l.Result(root, exp+1))))
				if one != both || l.Level(one) != level-2 {
					t.Fatalf("%s: of level %d, twice %d: %d, not %d", text, level, exp, one, both)
				}
			}
		}
	}
}

// More different leaves than are kept: it doesn't show.
func TestManyLeaves(t *testing.T) {
	r := rand.New(rand.NewSource(7))
	for _, text := range []string{"B2/S34H", "B1/S2:B2/S3E"} {
		x := parsed(t, text)
		l := life.New(arena.New(1<<22), kernel(t, x))
		s := some(r, x.Lattice, 40000, 255)
		i := holds(t, l, s, 9, 0)
		l.Forget()
		if j := holds(t, l, s, 9, 0); j != i {
			t.Errorf("%s: %d, and then %d", text, i, j)
		}
	}
}

// Bits of Half 1 count for nothing among hexagons, wherever they are.
func TestHalfOneOfHexagons(t *testing.T) {
	r := rand.New(rand.NewSource(8))
	l := alive(t, "B12/S123H")
	for level := 3; level <= 6; level++ {
		for range 12 {
			hexagons, all := set.Set(nil), some(r, api.Edge, int(halfOf(level)*halfOf(level)/4), halfOf(level)-1)
			for _, c := range all {
				if c.Half == 0 {
					hexagons = append(hexagons, c)
				}
			}
			for exp, want := range holdsAll(t, l, hexagons, level) {
				if i := answered(t)(l.Result(laid(t, l.Arena, level, all), exp)); i != want {
					t.Fatalf("Result of %v by %d = %d, not %d", all, exp, i, want)
				}
			}
		}
		// Also where there are no others.
		if i := answered(t)(l.Result(fullNode(t, l.Arena, level, 0xaaaaaaaa), level-2)); l.Count(i) != 0 {
			t.Errorf("%d live of none", l.Count(i))
		}
	}
}

// Any node is asked, not only one that was laid as a root: of many alike, and of very many cells.
func TestResultOfAlikeNodes(t *testing.T) {
	for _, text := range []string{"B2/S6H", "B3/S3E", "B3/ScV"} {
		l := alive(t, text)
		f := full
		if l.Kernel().Table().Lattice == api.Hex {
			f = 0x55555555
		}
		// All live, and go on to do so: the middle doesn't see where that ends.
		for level := 3; level <= 44; level++ {
			for exp := 0; exp <= level-2; exp++ {
				i, want := answered(t)(l.Result(fullNode(t, l.Arena, level, f), exp)), fullNode(t, l.Arena, level-1, f)
				if i != want {
					t.Fatalf("%s: Result of all of level %d by %d = %d, not %d", text, level, exp, i, want)
				}
			}
		}
	}
}

// What was asked is known, once each; what wasn't may be.
func TestKnown(t *testing.T) {
	r := rand.New(rand.NewSource(9))
	for _, text := range rules {
		l := alive(t, text)
		type question struct {
			at  uint32
			exp int
		}
		asked := map[question]uint32{}
		for range 60 {
			level := 3 + r.Intn(5)
			q := question{laid(t, l.Arena, level, some(r, l.Kernel().Table().Lattice, r.Intn(9), halfOf(level)-1)), r.Intn(level - 1)}
			asked[q] = answered(t)(l.Result(q.at, q.exp))
			if l.Known() < len(asked) {
				t.Fatalf("%s: %d known, but %d were asked", text, l.Known(), len(asked))
			}
		}
		known, n := l.Known(), l.Len()
		for q, want := range asked {
			if i, err := l.Result(q.at, q.exp); i != want || err != nil {
				t.Fatalf("%s: again: %d, %v, not %d", text, i, err, want)
			}
		}
		if l.Known() != known || l.Len() != n {
			t.Errorf("%s: again: %d known, %d nodes; not %d, %d", text, l.Known(), l.Len(), known, n)
		}
		l.Forget()
		if l.Known() != 0 || l.Len() != n {
			t.Errorf("%s: behind Forget %d known, %d nodes, not %d", text, l.Known(), l.Len(), n)
		}
		l.Forget()
		seen := 0
		for q, want := range asked {
			if i, err := l.Result(q.at, q.exp); i != want || err != nil {
				t.Fatalf("%s: behind Forget: %d, %v, not %d", text, i, err, want)
			}
			if seen++; l.Known() < seen {
				t.Fatalf("%s: behind Forget %d known, but %d were asked", text, l.Known(), seen)
			}
		}
		if l.Len() != n {
			t.Errorf("%s: behind Forget %d nodes, not %d", text, l.Len(), n)
		}
	}
}

// Each level and each time is a question of its own, those of the least level and of nodes without cells too.
func TestKnownOfEach(t *testing.T) {
	for _, s := range []set.Set{nil, set.Of(at(0, 0, 0)), set.Of(at(-4, 3, 1))} {
		for level := 3; level <= 44; level++ {
			l := alive(t, "B2/S0E")
			root := laid(t, l.Arena, level, s)
			for exp := 0; exp <= level-2; exp++ {
				answered(t)(l.Result(root, exp))
				if l.Known() <= exp {
					t.Fatalf("of level %d: %d known, but %d were asked", level, l.Known(), exp+1)
				}
			}
			l.Forget()
			if l.Known() != 0 {
				t.Errorf("%d known behind Forget", l.Known())
			}
		}
	}
}

// Two lives of one arena: what one knows isn't the other's, and each has its own kernel.
func TestTwoLives(t *testing.T) {
	a := arena.New(1 << 20)
	x, y := life.New(a, kernel(t, parsed(t, "B2/SH"))), life.New(a, kernel(t, parsed(t, "B/S1H")))
	s := set.Of(at(0, 0, 0), at(1, 0, 0))
	for range 2 {
		for level := 3; level <= 6; level++ {
			for exp := 0; exp <= level-2; exp++ {
				i, j := holds(t, x, s, level, exp), holds(t, y, s, level, exp)
				if exp == 0 && i == j {
					t.Errorf("by both rules the result is %d", i)
				}
			}
		}
		known := y.Known()
		x.Forget()
		if x.Known() != 0 || y.Known() != known {
			t.Errorf("%d and %d known, not 0 and %d", x.Known(), y.Known(), known)
		}
	}
}

// Nodes that were there stay as they are.
func TestNodesStay(t *testing.T) {
	r := rand.New(rand.NewSource(10))
	type node struct {
		level int
		bits  site.Leaf
		kids  [4]uint32
		count uint64
	}
	l := alive(t, "B2/S34H")
	root := laid(t, l.Arena, 8, some(r, 1, 400, 127))
	var nodes []node
	for i := range uint32(l.Len()) {
		nodes = append(nodes, node{l.Level(i), l.Bits(i), l.Kids(i), l.Count(i)})
	}
	for exp := 0; exp <= 6; exp++ {
		answered(t)(l.Result(root, exp))
	}
	for i, want := range nodes {
		i := uint32(i)
		if n := (node{l.Level(i), l.Bits(i), l.Kids(i), l.Count(i)}); n != want {
			t.Fatalf("node %d is %v, not %v", i, n, want)
		}
	}
}

// The same calls, the same nodes, and as much known.
func TestAlike(t *testing.T) {
	told := func() []uint32 {
		r := rand.New(rand.NewSource(11))
		l := alive(t, "B34/S45V")
		var all []uint32
		for range 30 {
			level := 3 + r.Intn(6)
			root := laid(t, l.Arena, level, some(r, 3, 40, halfOf(level)-1))
			all = append(all, answered(t)(l.Result(root, r.Intn(level-1))), uint32(l.Len()), uint32(l.Known()))
			if r.Intn(5) == 0 {
				l.Forget()
			}
		}
		return all
	}
	first := told()
	for range 3 {
		if again := told(); !slices.Equal(again, first) {
			t.Fatalf("%v, and then %v", first, again)
		}
	}
}

// A life that New didn't make, but with an arena, has no kernel: by it nothing lives.
func TestLifeThatWasNotMade(t *testing.T) {
	l := &life.Life{Arena: arena.New(1000)}
	root := laid(t, l.Arena, 5, edges(1, 4))
	l.Forget()
	for range 2 {
		if i, err := l.Result(root, 2); i != answered(t)(l.Empty(4)) || err != nil || l.Known() == 0 {
			t.Errorf("Result = %d, %v; %d known", i, err, l.Known())
		}
		l.Forget()
		if l.Known() != 0 {
			t.Errorf("%d known", l.Known())
		}
	}
}

// By a kernel with the zero table nothing lives.
func TestKernelThatWasNotMade(t *testing.T) {
	l := life.New(arena.New(1000), &block.Kernel{})
	if i, err := l.Result(laid(t, l.Arena, 5, edges(1, 4)), 3); i != answered(t)(l.Empty(4)) || err != nil {
		t.Errorf("Result = %d, %v", i, err)
	}
}

// A hundred generations and more of a set that layer 8 can still step.
func TestManyGenerations(t *testing.T) {
	for _, text := range []string{"B2o/S2mH", "B3/S2H", "B2/S12E", "B45/S3456V"} {
		x := parsed(t, text)
		r := rand.New(rand.NewSource(12))
		l := life.New(arena.New(1<<22), kernel(t, x))
		s := some(r, x.Lattice, 25, 4)
		now := s
		for exp := range 8 {
			then, err := flat.Steps(x, now, 1<<exp-(1<<exp)/2)
			if err != nil {
				t.Fatal(err)
			}
			now = then
			for _, level := range []int{exp + 2, exp + 3, 12} {
				if level < 5 {
					continue
				}
				i := answered(t)(l.Result(laid(t, l.Arena, level, s), exp))
				if want := laid(t, l.Arena, level-1, now); i != want {
					t.Fatalf("%s: Result of level %d by %d: %d live, not %d", text, level, exp, l.Count(i), len(part(now, level-1)))
				}
			}
		}
	}
}
