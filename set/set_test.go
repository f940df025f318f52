package set_test

import (
	"math"
	"math/rand"
	"slices"
	"testing"

	"honeycomb/api"
	"honeycomb/axis"
	"honeycomb/cell"
	"honeycomb/fault"
	"honeycomb/set"
)

// The calls have just these signatures.
var (
	_ func(...cell.Cell) set.Set                                  = set.Of
	_ func(set.Set, cell.Cell) bool                               = set.Set.Has
	_ func(set.Set, cell.Cell, bool) set.Set                      = set.Set.Put
	_ func(set.Set, set.Set) bool                                 = set.Set.Same
	_ func(set.Set, cell.Lattice) error                           = set.Set.Check
	_ func(set.Set) (set.Box, bool)                               = set.Set.Box
	_ func(set.Set, axis.Point) (set.Set, error)                  = set.Set.Shift
	_ func(set.Set, cell.Lattice, axis.Operator) (set.Set, error) = set.Set.Turn
	_ []cell.Cell                                                 = set.Set{}
	_ struct{ Low, High axis.Point }                              = set.Box{}
	_ map[set.Box]struct{}                                        = nil
)

const far = api.MaxCoord

var lattices = []cell.Lattice{api.Hex, api.Edge, api.Vertex}

func at(a, b int64, half int) cell.Cell {
	return cell.Cell{At: axis.Point{A: a, B: b}, Half: half}
}

// some is cells of a lattice at points at most four away from the origin, in any order, some of them more than once.
func some(r *rand.Rand, l cell.Lattice, n int) []cell.Cell {
	cells := make([]cell.Cell, n)
	for i := range cells {
		cells[i] = at(r.Int63n(9)-4, r.Int63n(9)-4, r.Intn(l.Halves()))
	}
	return cells
}

// wild is cells of any values.
func wild() []cell.Cell {
	var cells []cell.Cell
	for _, half := range []int{7, math.MinInt, 0, math.MaxInt, -1, 1} {
		for _, a := range []int64{0, math.MaxInt64, far + 1, math.MinInt64, -far} {
			for _, b := range []int64{math.MinInt64, 1, math.MaxInt64, -far - 1} {
				cells = append(cells, at(a, b, half))
			}
		}
	}
	return cells
}

// plain is the set of cells, put together one by one in a map.
func plain(cells ...cell.Cell) map[cell.Cell]int {
	m := map[cell.Cell]int{}
	for _, c := range cells {
		m[c]++
	}
	return m
}

// isSet: has s just the cells of m, rising, each once?
func isSet(s set.Set, m map[cell.Cell]int) bool {
	for i, c := range s {
		if m[c] == 0 || i > 0 && cell.Compare(s[i-1], c) != -1 {
			return false
		}
	}
	return len(s) == len(m)
}

// told: is it a fault with "cell", that place, and that code right behind it?
func told(err error, place int, code api.Code) bool {
	f, ok := err.(*fault.Fault)
	return ok && f.What == "cell" && f.At == place && f.Err == error(code)
}

func TestOf(t *testing.T) {
	if s := set.Of(at(1, 0, 0), at(0, 0, 0), at(1, 0, 0)); !slices.Equal(s, set.Set{at(0, 0, 0), at(1, 0, 0)}) {
		t.Errorf("Of = %v", s)
	}
	if s := set.Of(at(0, 1, 0), at(5, 0, 1), at(5, 0, 0), at(6, -1, 1)); !slices.Equal(s, set.Set{at(6, -1, 1), at(5, 0, 0), at(5, 0, 1), at(0, 1, 0)}) {
		t.Errorf("Of = %v", s)
	}
	if len(set.Of()) != 0 || len(set.Of([]cell.Cell{}...)) != 0 {
		t.Error("Of of no cells has some")
	}
}

func TestOfAnyCells(t *testing.T) {
	r := rand.New(rand.NewSource(4))
	for n := range 60 {
		for _, l := range lattices {
			if cells := some(r, l, n); !isSet(set.Of(cells...), plain(cells...)) {
				t.Fatalf("Of(%v) = %v", cells, set.Of(cells...))
			}
		}
	}
	cells := append(wild(), wild()...)
	if s := set.Of(cells...); !isSet(s, plain(cells...)) {
		t.Errorf("Of of any values = %v", s)
	}
}

func TestOfManyOfOne(t *testing.T) {
	cells := slices.Repeat([]cell.Cell{at(3, 3, 1), at(3, 3, 0)}, 5000)
	if s := set.Of(cells...); !slices.Equal(s, set.Set{at(3, 3, 0), at(3, 3, 1)}) {
		t.Errorf("Of = %v", s)
	}
}

func TestHas(t *testing.T) {
	cells := append(wild(), at(0, 0, 0), at(2, 0, 0), at(2, 0, 1), at(1, 1, 0))
	s := set.Of(cells...)
	for _, c := range cells {
		if !s.Has(c) {
			t.Errorf("%v isn't there", c)
		}
		if set.Set(nil).Has(c) || (set.Set{}).Has(c) {
			t.Errorf("a set without cells has %v", c)
		}
		if s.Put(c, false).Has(c) {
			t.Errorf("%v is still there", c)
		}
	}
	for _, c := range []cell.Cell{at(1, 0, 0), at(0, 2, 0), at(1, 1, 1), at(0, 0, 2), at(5, 5, 5), at(-1, -1, -1)} {
		if s.Has(c) {
			t.Errorf("%v is there", c)
		}
	}
}

func TestPut(t *testing.T) {
	s := set.Of(at(0, 0, 0), at(0, 0, 1), at(3, 0, 0), at(0, 2, 1))
	for _, x := range []struct {
		c    cell.Cell
		live bool
		want set.Set
	}{
		{at(0, 0, 0), true, s},
		{at(0, 2, 1), true, s},
		{at(9, 9, 0), false, s},
		{at(0, -1, 0), false, s},
		{at(0, -1, 1), true, set.Set{at(0, -1, 1), at(0, 0, 0), at(0, 0, 1), at(3, 0, 0), at(0, 2, 1)}},
		{at(1, 0, 0), true, set.Set{at(0, 0, 0), at(0, 0, 1), at(1, 0, 0), at(3, 0, 0), at(0, 2, 1)}},
		{at(0, 3, 0), true, set.Set{at(0, 0, 0), at(0, 0, 1), at(3, 0, 0), at(0, 2, 1), at(0, 3, 0)}},
		{at(0, 0, 0), false, set.Set{at(0, 0, 1), at(3, 0, 0), at(0, 2, 1)}},
		{at(0, 0, 1), false, set.Set{at(0, 0, 0), at(3, 0, 0), at(0, 2, 1)}},
		{at(0, 2, 1), false, set.Set{at(0, 0, 0), at(0, 0, 1), at(3, 0, 0)}},
	} {
		if u := s.Put(x.c, x.live); !slices.Equal(u, x.want) {
			t.Errorf("Put(%v, %v) = %v", x.c, x.live, u)
		}
	}
}

func TestPutOfASetWithoutCells(t *testing.T) {
	for _, s := range []set.Set{nil, {}} {
		if u := s.Put(at(1, 2, 0), true); !slices.Equal(u, set.Set{at(1, 2, 0)}) {
			t.Errorf("Put = %v", u)
		}
		if u := s.Put(at(1, 2, 0), false); len(u) != 0 {
			t.Errorf("Put = %v", u)
		}
	}
	if u := set.Of(at(1, 2, 0)).Put(at(1, 2, 0), false); len(u) != 0 {
		t.Errorf("Put = %v", u)
	}
}

func TestPutOneByOne(t *testing.T) {
	r := rand.New(rand.NewSource(5))
	cells := append(some(r, api.Vertex, 400), wild()...)
	var s set.Set
	m := map[cell.Cell]int{}
	for _, c := range cells {
		live := r.Intn(3) > 0
		s = s.Put(c, live)
		delete(m, c)
		if live {
			m[c] = 1
		}
		if !isSet(s, m) {
			t.Fatalf("behind Put(%v, %v): %v", c, live, s)
		}
	}
}

func TestSame(t *testing.T) {
	s := set.Of(at(0, 0, 0), at(1, 0, 1))
	for _, x := range []struct {
		s, t set.Set
		same bool
	}{
		{nil, nil, true},
		{nil, set.Set{}, true},
		{set.Set{}, nil, true},
		{nil, s, false},
		{s, set.Set{}, false},
		{s, set.Of(at(1, 0, 1), at(0, 0, 0)), true},
		{s, s[:1], false},
		{s[1:], s, false},
		{s, set.Of(at(0, 0, 0), at(1, 0, 0)), false},
		{s, set.Of(at(0, 0, 0), at(1, 1, 1)), false},
		{s, set.Of(at(0, 0, 0), at(2, 0, 1)), false},
	} {
		if x.s.Same(x.t) != x.same {
			t.Errorf("%v.Same(%v) = %v", x.s, x.t, !x.same)
		}
	}
}

func TestCheck(t *testing.T) {
	for _, l := range lattices {
		r := rand.New(rand.NewSource(int64(l)))
		for _, s := range []set.Set{nil, {}, {at(-far, -far, 0), at(far, far, 0)}, set.Of(some(r, l, 50)...)} {
			if err := s.Check(l); err != nil {
				t.Errorf("%v.Check(%d) = %v", s, l, err)
			}
		}
	}
}

func TestCheckOfNoLattice(t *testing.T) {
	for _, l := range []cell.Lattice{0, -1, 4, math.MinInt, math.MaxInt} {
		for _, s := range []set.Set{nil, {at(0, 0, 0)}, {at(0, 0, 9), at(0, 0, 9)}} {
			if err := s.Check(l); err != error(api.ErrLattice) {
				t.Errorf("%v.Check(%d) = %v", s, l, err)
			}
		}
	}
}

func TestCheckTellsTheFirstThatIsWrong(t *testing.T) {
	for _, x := range []struct {
		l     cell.Lattice
		s     set.Set
		place int
		code  api.Code
	}{
		{api.Hex, set.Set{at(0, 0, 1)}, 0, api.ErrArg},
		{api.Hex, set.Set{at(0, 0, 0), at(1, 0, -1), at(2, 0, 5)}, 1, api.ErrArg},
		{api.Edge, set.Set{at(0, 0, 0), at(0, 0, 1), at(0, 0, 2)}, 2, api.ErrArg},
		{api.Vertex, set.Set{at(far+1, 0, 1)}, 0, api.ErrRange},
		{api.Edge, set.Set{at(0, -far-1, 0)}, 0, api.ErrRange},
		{api.Vertex, set.Set{at(0, 0, 0), at(0, far, 0), at(-far-1, far, 1)}, 2, api.ErrRange},
		{api.Hex, set.Set{at(1, 0, 0), at(1, 0, 0)}, 1, api.ErrForm},
		{api.Hex, set.Set{at(0, 0, 0), at(1, 0, 0), at(0, 0, 0), at(2, 0, 0)}, 2, api.ErrForm},
		{api.Edge, set.Set{at(0, 0, 1), at(0, 0, 0)}, 1, api.ErrForm},
		{api.Edge, set.Set{at(0, 1, 1), at(5, 0, 1)}, 1, api.ErrForm},
		{api.Edge, set.Set{at(0, 0, 0), at(-1, 0, 0), at(0, 0, 7)}, 1, api.ErrForm},
		{api.Edge, set.Set{at(0, 0, 0), at(-1, 0, 2)}, 1, api.ErrArg},
		{api.Edge, set.Set{at(0, 0, 0), at(-far-1, 0, 0)}, 1, api.ErrRange},
	} {
		if err := x.s.Check(x.l); !told(err, x.place, x.code) {
			t.Errorf("%v.Check(%d) = %v", x.s, x.l, err)
		}
	}
}

func TestBox(t *testing.T) {
	for _, x := range []struct {
		s    set.Set
		want set.Box
	}{
		{set.Set{at(0, 0, 0)}, set.Box{}},
		{set.Set{at(7, -3, 1)}, set.Box{Low: axis.Point{A: 7, B: -3}, High: axis.Point{A: 7, B: -3}}},
		{set.Of(at(2, 0, 0), at(-3, 1, 0), at(1, 5, 1)), set.Box{Low: axis.Point{A: -3}, High: axis.Point{A: 2, B: 5}}},
		{set.Of(at(4, 1, 0), at(9, 2, 0), at(6, 3, 0)), set.Box{Low: axis.Point{A: 4, B: 1}, High: axis.Point{A: 9, B: 3}}},
		{set.Of(at(far, -far, 0), at(-far, far, 0)), set.Box{Low: axis.Point{A: -far, B: -far}, High: axis.Point{A: far, B: far}}},
		{set.Of(at(math.MinInt64, 0, 3), at(0, math.MaxInt64, 0)), set.Box{Low: axis.Point{A: math.MinInt64}, High: axis.Point{B: math.MaxInt64}}},
	} {
		if box, ok := x.s.Box(); box != x.want || !ok {
			t.Errorf("%v.Box() = %v, %v", x.s, box, ok)
		}
	}
	for _, s := range []set.Set{nil, {}} {
		if box, ok := s.Box(); box != (set.Box{}) || ok {
			t.Errorf("Box of no cells = %v, %v", box, ok)
		}
	}
}

func TestShift(t *testing.T) {
	s := set.Of(at(0, 0, 1), at(3, 0, 0), at(-2, 1, 7))
	u, err := s.Shift(axis.Point{A: 10, B: -4})
	if err != nil || !slices.Equal(u, set.Set{at(10, -4, 1), at(13, -4, 0), at(8, -3, 7)}) {
		t.Errorf("Shift = %v, %v", u, err)
	}
	if u, err := s.Shift(axis.Point{}); err != nil || !u.Same(s) {
		t.Errorf("Shift = %v, %v", u, err)
	}
	u, err = set.Of(at(-far, 0, 0), at(-far, far, 1)).Shift(axis.Point{A: far, B: -far})
	if err != nil || !slices.Equal(u, set.Set{at(0, -far, 0), at(0, 0, 1)}) {
		t.Errorf("Shift = %v, %v", u, err)
	}
}

func TestShiftBeyond(t *testing.T) {
	for _, x := range []struct {
		s     set.Set
		by    axis.Point
		place int
	}{
		{set.Of(at(0, 0, 0), at(far, 0, 0)), axis.Point{A: 1}, 1},
		{set.Of(at(0, 0, 0), at(0, 1, 0), at(0, far, 0)), axis.Point{B: 1}, 2},
		{set.Of(at(-far, 0, 0), at(0, 0, 0)), axis.Point{A: -1}, 0},
		{set.Of(at(0, -far, 1), at(0, 0, 0)), axis.Point{B: -1}, 0},
		{set.Of(at(0, 0, 0)), axis.Point{A: far + 1}, 0},
		{set.Of(at(-1, 0, 0)), axis.Point{A: far + 1}, 0},
		{set.Of(at(0, 0, 0)), axis.Point{B: math.MinInt64}, 0},
		{set.Of(at(0, 0, 0), at(far+1, 0, 0)), axis.Point{A: -1}, 1},
		{set.Of(at(math.MaxInt64, 0, 0)), axis.Point{A: 1}, 0},
	} {
		if u, err := x.s.Shift(x.by); u != nil || !told(err, x.place, api.ErrRange) {
			t.Errorf("%v.Shift(%v) = %v, %v", x.s, x.by, u, err)
		}
	}
}

func TestTurn(t *testing.T) {
	for _, x := range []struct {
		l    cell.Lattice
		o    axis.Operator
		want set.Set
	}{
		{api.Hex, 0, set.Set{at(0, 0, 0), at(1, 0, 0), at(3, 2, 0)}},
		{api.Hex, 1, set.Set{at(0, 0, 0), at(0, 1, 0), at(-2, 5, 0)}},
		{api.Hex, 3, set.Set{at(-3, -2, 0), at(-1, 0, 0), at(0, 0, 0)}},
		{api.Edge, 6, set.Set{at(0, 0, 0), at(0, 1, 0), at(2, 3, 0)}},
		{api.Vertex, 3, set.Set{at(-4, -3, 1), at(-2, -1, 1), at(-1, -1, 1)}},
	} {
		s := set.Of(at(0, 0, 0), at(1, 0, 0), at(3, 2, 0))
		if u, err := s.Turn(x.l, x.o); err != nil || !slices.Equal(u, x.want) {
			t.Errorf("Turn(%d, %d) = %v, %v", x.l, x.o, u, err)
		}
	}
}

func TestTurnOfEachOperator(t *testing.T) {
	r := rand.New(rand.NewSource(6))
	for _, l := range lattices {
		s := set.Of(some(r, l, 40)...)
		for o := range axis.Operator(api.Operators) {
			m := map[cell.Cell]int{}
			for _, c := range s {
				d, err := l.On(o, c)
				if err != nil {
					t.Fatal(err)
				}
				m[d] = 1
			}
			if u, err := s.Turn(l, o); err != nil || !isSet(u, m) {
				t.Errorf("%v.Turn(%d, %d) = %v, %v", s, l, o, u, err)
			}
		}
	}
}

func TestTurnThatCannotBe(t *testing.T) {
	s := set.Of(at(0, 0, 0), at(1, 0, 0))
	for _, x := range []struct {
		s     set.Set
		l     cell.Lattice
		o     axis.Operator
		place int
		code  api.Code
	}{
		{s, 0, 1, 0, api.ErrLattice},
		{s, 4, 99, 0, api.ErrLattice},
		{s, api.Hex, -1, 0, api.ErrArg},
		{s, api.Vertex, 12, 0, api.ErrArg},
		{s, api.Edge, math.MinInt, 0, api.ErrArg},
		{set.Of(at(0, 0, 0), at(0, 0, 1), at(1, 0, 0)), api.Hex, 0, 1, api.ErrArg},
		{set.Of(at(0, 0, 0), at(5, 0, -1)), api.Edge, 0, 1, api.ErrArg},
		{set.Of(at(0, 0, 0), at(1, 0, 0), at(1, far, 0)), api.Hex, 1, 2, api.ErrRange},
		{set.Of(at(0, 0, 0), at(far, 0, 0)), api.Vertex, 3, 1, api.ErrRange},
		{set.Of(at(0, 0, 0), at(far+1, 0, 0)), api.Edge, 0, 1, api.ErrRange},
		{set.Of(at(0, -far-1, 0)), api.Edge, 77, 0, api.ErrRange},
	} {
		if u, err := x.s.Turn(x.l, x.o); u != nil || !told(err, x.place, x.code) {
			t.Errorf("%v.Turn(%d, %d) = %v, %v", x.s, x.l, x.o, u, err)
		}
	}
}

// Without cells there is none that can't be brought anywhere.
func TestNoCellsAreBroughtAnywhere(t *testing.T) {
	for _, s := range []set.Set{nil, {}} {
		for _, by := range []axis.Point{{}, {A: 5}, {A: far + 1}, {B: math.MinInt64}} {
			if u, err := s.Shift(by); err != nil || len(u) != 0 {
				t.Errorf("Shift(%v) = %v, %v", by, u, err)
			}
		}
		for _, l := range append([]cell.Lattice{0, -1, 4}, lattices...) {
			for _, o := range []axis.Operator{0, 5, 11, 12, -1} {
				if u, err := s.Turn(l, o); err != nil || len(u) != 0 {
					t.Errorf("Turn(%d, %d) = %v, %v", l, o, u, err)
				}
			}
		}
	}
}

func TestThereAndBack(t *testing.T) {
	r := rand.New(rand.NewSource(7))
	for _, l := range lattices {
		for _, s := range []set.Set{nil, set.Of(some(r, l, 1)...), set.Of(some(r, l, 30)...), set.Of(some(r, l, 200)...)} {
			for _, by := range []axis.Point{{}, {A: 3, B: -2}, {A: -far + 4, B: far - 4}, {A: far - 5}} {
				there, err := s.Shift(by)
				if err != nil {
					t.Fatal(err)
				}
				if back, err := there.Shift(axis.Point{A: -by.A, B: -by.B}); err != nil || !back.Same(s) {
					t.Errorf("%v, shifted by %v and back: %v, %v", s, by, back, err)
				}
			}
			for o := range axis.Operator(api.Operators) {
				there, err := s.Turn(l, o)
				if err != nil {
					t.Fatal(err)
				}
				if back, err := there.Turn(l, o.Back()); err != nil || !back.Same(s) || len(there) != len(s) {
					t.Errorf("%v, turned by %d and back: %v, %v", s, o, back, err)
				}
			}
		}
	}
}

// answers is all that the calls answer which are lists.
func answers(s set.Set, c cell.Cell) []set.Set {
	shifted, _ := s.Shift(axis.Point{})
	turned, _ := s.Turn(api.Vertex, 0)
	return []set.Set{set.Of(s...), s.Put(c, true), s.Put(c, false), s.Put(s[0], true), s.Put(s[len(s)-1], false), shifted, turned}
}

// Each list has room behind its end: a call that grew it in place would write there.
func TestWhatIsHandedInStays(t *testing.T) {
	room := append(set.Of(at(0, 0, 0), at(1, 0, 1), at(4, 2, 0)), at(8, 8, 0), at(9, 9, 0), at(9, 9, 1))
	kept := slices.Clone(room)
	s := room[:3]
	for _, c := range []cell.Cell{at(-1, 0, 0), at(2, 0, 0), at(9, 2, 0), at(1, 0, 1)} {
		for i, u := range answers(s, c) {
			if !slices.Equal(room, kept) {
				t.Fatalf("call %d changed what it was handed: %v", i, room)
			}
			clear(u[:cap(u)])
			if !slices.Equal(room, kept) {
				t.Fatalf("call %d answered what it was handed", i)
			}
		}
	}
	mixed := []cell.Cell{at(5, 5, 0), at(0, 0, 0), at(5, 5, 0)}
	set.Of(mixed...)
	if !slices.Equal(mixed, []cell.Cell{at(5, 5, 0), at(0, 0, 0), at(5, 5, 0)}) {
		t.Errorf("Of changed what it was handed: %v", mixed)
	}
}

func TestWhatIsAskedStays(t *testing.T) {
	mixed := set.Set{at(0, 1, 0), at(9, 0, 1), at(0, 1, 0)}
	s := set.Of(mixed...)
	keptMixed, kept := slices.Clone(mixed), slices.Clone(s)
	mixed.Check(api.Edge)
	s.Box()
	s.Has(at(9, 0, 1))
	s.Same(kept)
	if !slices.Equal(s, kept) || !slices.Equal(mixed, keptMixed) {
		t.Errorf("asking changed it: %v, %v", s, mixed)
	}
}
