package turn_test

import (
	"errors"
	"math"
	"math/rand"
	"testing"

	"honeycomb/api"
	"honeycomb/arena"
	"honeycomb/axis"
	"honeycomb/cell"
	"honeycomb/fault"
	"honeycomb/set"
	"honeycomb/tree"
	"honeycomb/turn"
)

// The calls have just these signatures.
var (
	_ func(*arena.Arena, uint32, cell.Lattice, axis.Operator) (uint32, error) = turn.Turn
	_ func(*arena.Arena, uint32, axis.Point) (uint32, error)                  = turn.Shift
	_ func(*arena.Arena, uint32, uint32, int) (uint32, error)                 = turn.Mix
)

// badLattices and badOperators are numbers of none.
var (
	badLattices  = []cell.Lattice{math.MinInt, -1, 0, 4, 5, 1 << 32, math.MaxInt}
	badOperators = []axis.Operator{math.MinInt, -12, -1, 12, 13, 1 << 32, math.MaxInt}
)

// All twelve, on hexagons and on triangles, of roots of the least level and of greater ones.
func TestTurn(t *testing.T) {
	r := rand.New(rand.NewSource(1))
	for _, l := range lattices {
		a := arena.New(1 << 22)
		for _, s := range anySets(r, l) {
			for o := range axis.Operator(api.Operators) {
				want := turned(l, o, s)
				for _, level := range []int{3, 3 + r.Intn(42), 44} {
					is(t, a, want)(turn.Turn(a, wide(t, a, s, level), l, o))
				}
			}
		}
	}
}

// Each cell around the origin by itself.
func TestTurnOfEachCell(t *testing.T) {
	for _, l := range lattices {
		a := arena.New(1 << 20)
		for x := int64(-5); x < 5; x++ {
			for y := int64(-5); y < 5; y++ {
				for half := range l.Halves() {
					s := set.Of(at(x, y, half))
					for o := range axis.Operator(api.Operators) {
						is(t, a, turned(l, o, s))(turn.Turn(a, built(t, a, s), l, o))
					}
				}
			}
		}
	}
}

// What a turn and a swap are, by hand.
func TestTurnByHand(t *testing.T) {
	for _, x := range []struct {
		l        cell.Lattice
		o        axis.Operator
		from, to cell.Cell
	}{
		{api.Hex, 1, at(1, 0, 0), at(0, 1, 0)},
		{api.Hex, 1, at(5, -2, 0), at(2, 3, 0)},
		{api.Hex, 6, at(2, -1, 0), at(-1, 2, 0)},
		{api.Hex, 3, at(7, 9, 0), at(-7, -9, 0)},
		{api.Edge, 0, at(3, 4, 1), at(3, 4, 1)},
		{api.Edge, 1, at(0, 0, 0), at(-1, 0, 1)},
		{api.Vertex, 1, at(0, 0, 0), at(-1, 0, 1)},
		{api.Edge, 6, at(2, 0, 1), at(0, 2, 1)},
	} {
		a := arena.New(1000)
		is(t, a, set.Of(x.to))(turn.Turn(a, built(t, a, set.Of(x.from)), x.l, x.o))
	}
}

func TestTurnAndBack(t *testing.T) {
	r := rand.New(rand.NewSource(2))
	for _, l := range lattices {
		a := arena.New(1 << 22)
		for _, s := range anySets(r, l) {
			for o := range axis.Operator(api.Operators) {
				is(t, a, s)(turn.Turn(a, answered(t)(turn.Turn(a, wide(t, a, s, r.Intn(45)), l, o)), l, o.Back()))
			}
		}
	}
}

func TestTurnsOneBehindTheOther(t *testing.T) {
	r := rand.New(rand.NewSource(3))
	for _, l := range lattices {
		a := arena.New(1 << 22)
		for _, s := range []set.Set{nil, set.Of(at(3, 1, 0)), some(r, l, 20, 9), some(r, l, 40, page/4)} {
			root := built(t, a, s)
			for o := range axis.Operator(api.Operators) {
				once := answered(t)(turn.Turn(a, root, l, o))
				for p := range axis.Operator(api.Operators) {
					twice := answered(t)(turn.Turn(a, once, l, p))
					if i, err := turn.Turn(a, root, l, o.Then(p)); err != nil || i != twice {
						t.Fatalf("%v by %d and %d: %d, not %d, %v", s, o, p, twice, i, err)
					}
				}
			}
		}
	}
}

// somewhere is a point at most so far away.
func somewhere(r *rand.Rand, away int64) axis.Point {
	return axis.Point{A: r.Int63n(2*away+1) - away, B: r.Int63n(2*away+1) - away}
}

func TestShift(t *testing.T) {
	r := rand.New(rand.NewSource(4))
	for _, l := range lattices {
		a := arena.New(1 << 22)
		for _, s := range anySets(r, l) {
			for _, away := range []int64{0, 1, 2, 4, 9, 1 << 10, page / 2} {
				by := somewhere(r, away)
				root := wide(t, a, s, r.Intn(45))
				there := answered(t)(turn.Shift(a, root, by))
				is(t, a, moved(s, by))(there, nil)
				is(t, a, s)(turn.Shift(a, there, axis.Point{A: -by.A, B: -by.B}))
			}
		}
	}
}

func TestShiftsOneBehindTheOther(t *testing.T) {
	r := rand.New(rand.NewSource(5))
	a := arena.New(1 << 20)
	for range 200 {
		s, p, q := some(r, api.Edge, r.Intn(20), page/4), somewhere(r, page/4), somewhere(r, page/4)
		root := built(t, a, s)
		once := answered(t)(turn.Shift(a, root, p))
		is(t, a, moved(s, axis.Point{A: p.A + q.A, B: p.B + q.B}))(turn.Shift(a, once, q))
	}
}

// From one end of the page to the other, by as much as there is.
func TestShiftAcrossThePage(t *testing.T) {
	a := arena.New(10000)
	for _, x := range []struct {
		from cell.Cell
		by   axis.Point
		to   cell.Cell
	}{
		{at(0, 0, 1), axis.Point{A: page, B: -page}, at(page, -page, 1)},
		{at(page, -page, 0), axis.Point{A: -page, B: page}, at(0, 0, 0)},
		{at(-page, page, 0), axis.Point{A: page, B: 0}, at(0, page, 0)},
		{at(page-1, 1-page, 0), axis.Point{A: 1, B: -1}, at(page, -page, 0)},
	} {
		is(t, a, set.Of(x.to))(turn.Shift(a, built(t, a, set.Of(x.from)), x.by))
	}
}

// Without cells the answer is the root of the least level, whatever is done.
func TestOfNoCells(t *testing.T) {
	a := arena.New(10000)
	least := answered(t)(a.Empty(3))
	for level := 3; level <= 44; level++ {
		root := answered(t)(a.Empty(level))
		for _, l := range lattices {
			for o := range axis.Operator(api.Operators) {
				if i, err := turn.Turn(a, root, l, o); i != least || err != nil {
					t.Errorf("Turn of level %d = %d, %v", level, i, err)
				}
			}
		}
		for _, by := range []axis.Point{{}, {A: 1}, {A: page, B: -page}, {A: -page, B: page}} {
			if i, err := turn.Shift(a, root, by); i != least || err != nil {
				t.Errorf("Shift of level %d = %d, %v", level, i, err)
			}
		}
	}
}

// Leaves, and what isn't there, are no roots; with no room, too.
func TestOfNoRoot(t *testing.T) {
	a := arena.New(1000)
	root := built(t, a, set.Of(at(1, 2, 0)))
	bad := noRoots(t, a)
	for range 2 {
		unchanged(t, a, func() {
			for _, i := range bad {
				for _, l := range lattices {
					refused(t, api.ErrArg)(turn.Turn(a, i, l, 1))
				}
				refused(t, api.ErrArg)(turn.Shift(a, i, axis.Point{A: 3}))
				refused(t, api.ErrArg)(turn.Shift(a, i, axis.Point{}))
				for how := range ways {
					refused(t, api.ErrArg)(turn.Mix(a, i, root, how))
					refused(t, api.ErrArg)(turn.Mix(a, root, i, how))
					refused(t, api.ErrArg)(turn.Mix(a, i, i, how))
				}
			}
		})
		bad = bad[:2]
		leave(t, a, 0)
	}
}

// A zero Arena has node 0 alone: there is no root.
func TestZeroArena(t *testing.T) {
	var a arena.Arena
	refused(t, api.ErrArg)(turn.Turn(&a, 0, api.Hex, 0))
	refused(t, api.ErrArg)(turn.Shift(&a, 0, axis.Point{}))
	refused(t, api.ErrArg)(turn.Mix(&a, 0, 0, turn.Or))
	is(t, &a, set.Of(at(-1, 2, 0)))(turn.Shift(&a, built(t, &a, set.Of(at(0, 0, 0))), axis.Point{A: -1, B: 2}))
}

// many is a root in which one cell more lives than may be.
func many(t *testing.T, a *arena.Arena) uint32 {
	t.Helper()
	return answered(t)(tree.Put(a, full(t, a, 8, 0x55555555), at(100, 100, 1), true))
}

// The lattice is looked at first, then the operator, then the root, then how many live in it; where they are brought at last.
func TestWhichErrorOfTurnIsFirst(t *testing.T) {
	a := arena.New(1 << 17)
	good, none, far := built(t, a, set.Of(at(1, 2, 0))), uint32(1<<31), built(t, a, set.Of(at(page, page, 0)))
	big := many(t, a)
	farAndBig := answered(t)(tree.Put(a, wide(t, a, nil, 44), at(page+1, 0, 0), true))
	farAndBig = answered(t)(turn.Mix(a, farAndBig, big, turn.Or))
	for range 2 {
		unchanged(t, a, func() {
			for _, l := range badLattices {
				for _, root := range []uint32{good, none, far, big} {
					refused(t, api.ErrLattice)(turn.Turn(a, root, l, 0))
					refused(t, api.ErrLattice)(turn.Turn(a, root, l, 12))
				}
			}
			for _, l := range lattices {
				for _, o := range badOperators {
					for _, root := range []uint32{good, none, far, big} {
						refused(t, api.ErrArg)(turn.Turn(a, root, l, o))
					}
				}
				for o := range axis.Operator(api.Operators) {
					refused(t, api.ErrArg)(turn.Turn(a, none, l, o))
					refused(t, api.ErrBig)(turn.Turn(a, big, api.Vertex, o))
					refused(t, api.ErrBig)(turn.Turn(a, farAndBig, api.Vertex, o))
				}
			}
		})
		leave(t, a, 0)
	}
}

// The shift is looked at first, then the root, then how many live in it.
func TestWhichErrorOfShiftIsFirst(t *testing.T) {
	a := arena.New(1 << 17)
	good, none, far, big := built(t, a, set.Of(at(1, 2, 0))), uint32(1<<31), built(t, a, set.Of(at(page, page, 0))), many(t, a)
	beyond := []int64{math.MinInt64, -1 << 62, -page - 1, page + 1, 1 << 62, math.MaxInt64}
	for range 2 {
		unchanged(t, a, func() {
			for _, n := range beyond {
				for _, by := range []axis.Point{{A: n}, {B: n}, {A: n, B: n}, {A: n, B: -5}, {A: page, B: n}} {
					for _, root := range []uint32{good, none, far, big} {
						refused(t, api.ErrRange)(turn.Shift(a, root, by))
					}
				}
			}
			for _, by := range []axis.Point{{}, {A: 1}, {A: page, B: page}} {
				refused(t, api.ErrArg)(turn.Shift(a, none, by))
				refused(t, api.ErrBig)(turn.Shift(a, big, by))
			}
		})
		leave(t, a, 0)
	}
}

// outside is of a call that tells 0, and which cell can't be brought where it would be.
func outside(t *testing.T, a *arena.Arena, which int) func(i uint32, err error) {
	return func(i uint32, err error) {
		t.Helper()
		var f *fault.Fault
		if i != 0 || !errors.As(err, &f) || f.What != "cell" || f.At != which || fault.Depth(err) != 1 || !errors.Is(err, api.ErrRange) {
			t.Errorf("%d, %v, not cell %d: range", i, err, which)
		}
	}
}

func TestTurnOutOfThePage(t *testing.T) {
	a := arena.New(1 << 16)
	for _, x := range []struct {
		s     set.Set
		l     cell.Lattice
		o     axis.Operator
		which int
	}{
		{set.Of(at(0, 0, 0), at(1, page, 0)), api.Hex, 1, 1},
		{set.Of(at(page, 1, 0), at(0, 2, 0), at(0, page, 0)), api.Hex, 2, 0},
		{set.Of(at(0, 0, 0), at(page-5, 4, 0), at(page-5, 6, 0)), api.Hex, 1, 2},
		// A half turn brings a triangle from (a, b) to (-a - 1, -b - 1), with the other Half.
		{set.Of(at(0, 0, 1), at(page, 0, 0)), api.Edge, 3, 1},
		{set.Of(at(-3, 0, 1), at(page-1, 0, 0), at(page, 0, 1)), api.Vertex, 3, 2},
		// Beyond the page already: a root goes further.
		{set.Of(at(0, 0, 0), at(page+1, 0, 0)), api.Hex, 0, 1},
		{set.Of(at(0, -page-1, 1), at(0, 0, 0)), api.Vertex, 6, 0},
	} {
		root := wide(t, a, x.s, 44)
		for range 2 {
			unchanged(t, a, func() { outside(t, a, x.which)(turn.Turn(a, root, x.l, x.o)) })
			leave(t, a, 0)
		}
		leave(t, a, 1<<14)
	}
}

// Any cells around the edge of the page: the root that layer 4's set has, or its error.
func TestTurnAtTheEdgeOfThePage(t *testing.T) {
	r := rand.New(rand.NewSource(6))
	a := arena.New(1 << 22)
	numbers := []int64{-page - 1, -page, 1 - page, -1, 0, 1, page - 1, page, page + 1}
	in, out := 0, 0
	for range 3000 {
		l := lattices[r.Intn(3)]
		s := some(r, l, r.Intn(4), 20)
		s = s.Put(at(numbers[r.Intn(9)], numbers[r.Intn(9)], r.Intn(l.Halves())), true)
		o, root := axis.Operator(r.Intn(12)), built(t, a, s)
		want, err := s.Turn(l, o)
		i, told := turn.Turn(a, root, l, o)
		switch {
		case err == nil:
			in++
			is(t, a, want)(i, told)
		default:
			out++
			which, _ := fault.Place(err, "cell")
			outside(t, a, which)(i, told)
		}
	}
	if in == 0 || out == 0 {
		t.Errorf("%d turned, %d not", in, out)
	}
}

func TestShiftOutOfThePage(t *testing.T) {
	a := arena.New(1 << 16)
	for _, x := range []struct {
		s     set.Set
		by    axis.Point
		which int
	}{
		{set.Of(at(page, 0, 0)), axis.Point{A: 1}, 0},
		{set.Of(at(0, 0, 0), at(3, page, 1)), axis.Point{B: 1}, 1},
		{set.Of(at(0, -page, 0), at(0, 0, 0)), axis.Point{B: -1}, 0},
		{set.Of(at(-1, 0, 0), at(1, 0, 0), at(2, 0, 1)), axis.Point{A: page}, 1},
		{set.Of(at(-1, 0, 0), at(0, 5, 0), at(1, 7, 1)), axis.Point{A: page, B: page - 6}, 2},
		{set.Of(at(-1, 0, 0)), axis.Point{A: -page}, 0},
		// Beyond the page already, also if it would come back.
		{set.Of(at(page+1, 0, 0)), axis.Point{}, 0},
		{set.Of(at(0, 0, 0), at(page+1, 0, 0)), axis.Point{A: -1}, 1},
	} {
		root := wide(t, a, x.s, 44)
		for range 2 {
			unchanged(t, a, func() { outside(t, a, x.which)(turn.Shift(a, root, x.by)) })
			leave(t, a, 0)
		}
		leave(t, a, 1<<14)
	}
}

// As many cells as may be are brought; of one more none is.
func TestMostCells(t *testing.T) {
	for _, l := range lattices {
		a := arena.New(1 << 18)
		root := full(t, a, 8, 0x55555555)
		if a.Count(root) != api.MaxCells {
			t.Fatal(a.Count(root))
		}
		s, err := tree.Cells(a, root, api.MaxCells)
		if err != nil {
			t.Fatal(err)
		}
		is(t, a, turned(l, 7, s))(turn.Turn(a, root, l, 7))
		is(t, a, moved(s, axis.Point{A: 3, B: -70}))(turn.Shift(a, root, axis.Point{A: 3, B: -70}))
	}
	a := arena.New(1 << 16)
	for _, root := range []uint32{many(t, a), full(t, a, 9, 0x1f), full(t, a, 30, 1<<32-1), full(t, a, 44, 1<<32-1)} {
		unchanged(t, a, func() {
			refused(t, api.ErrBig)(turn.Turn(a, root, api.Edge, 0))
			refused(t, api.ErrBig)(turn.Shift(a, root, axis.Point{}))
		})
	}
}

// By operator 0 and by no shift the answer is the root of the least level.
func TestNoTurnAndNoShift(t *testing.T) {
	r := rand.New(rand.NewSource(7))
	for _, l := range lattices {
		a := arena.New(1 << 20)
		for _, s := range anySets(r, l) {
			root := wide(t, a, s, 44)
			is(t, a, s)(turn.Turn(a, root, l, 0))
			is(t, a, s)(turn.Shift(a, root, axis.Point{}))
		}
	}
}

// What is handed in, and what is told, stays as it is.
func TestRootsStay(t *testing.T) {
	r := rand.New(rand.NewSource(8))
	a := arena.New(1 << 20)
	roots := map[uint32]set.Set{}
	for range 300 {
		s, u := some(r, api.Edge, r.Intn(20), 30), some(r, api.Edge, r.Intn(20), 30)
		x, y := wide(t, a, s, 3+r.Intn(9)), wide(t, a, u, 3+r.Intn(9))
		roots[x], roots[y] = s, u
		o, by, how := axis.Operator(r.Intn(12)), somewhere(r, 20), 1+r.Intn(4)
		roots[answered(t)(turn.Turn(a, x, api.Edge, o))] = turned(api.Edge, o, s)
		roots[answered(t)(turn.Shift(a, x, by))] = moved(s, by)
		roots[answered(t)(turn.Mix(a, x, y, how))] = mixed(how, s, u)
	}
	for root, s := range roots {
		if l, err := tree.Cells(a, root, len(s)); err != nil || !l.Same(s) {
			t.Errorf("%v, %v, not %v", l, err, s)
		}
	}
}
