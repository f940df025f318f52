package flat_test

import (
	"math"
	"math/rand"
	"slices"
	"testing"

	"honeycomb/api"
	"honeycomb/axis"
	"honeycomb/cell"
	"honeycomb/fault"
	"honeycomb/flat"
	"honeycomb/rule"
	"honeycomb/set"
	"honeycomb/table"
)

// The calls have just these signatures.
var (
	_ func(table.Table, set.Set) (set.Set, error)      = flat.Step
	_ func(table.Table, set.Set, int) (set.Set, error) = flat.Steps
)

const far = api.MaxCoord

var lattices = []cell.Lattice{api.Hex, api.Edge, api.Vertex}

func at(a, b int64, half int) cell.Cell {
	return cell.Cell{At: axis.Point{A: a, B: b}, Half: half}
}

func parse(t *testing.T, text string) table.Table {
	t.Helper()
	x, err := rule.Parse(text)
	if err != nil {
		t.Fatal(err)
	}
	return x
}

func mustStep(t *testing.T, x table.Table, s set.Set) set.Set {
	t.Helper()
	u, err := flat.Step(x, s)
	if err != nil {
		t.Fatalf("Step(%v, %v): %v", x, s, err)
	}
	return u
}

func mustSteps(t *testing.T, x table.Table, s set.Set, n int) set.Set {
	t.Helper()
	u, err := flat.Steps(x, s, n)
	if err != nil {
		t.Fatalf("Steps(%v, %v, %d): %v", x, s, n, err)
	}
	return u
}

// told: is it a fault of a cell, with that place, and that code right behind it?
func told(err error, place int, code api.Code) bool {
	f, ok := err.(*fault.Fault)
	return ok && f.What == "cell" && f.At == place && f.Err == error(code)
}

// toldOf: is it a fault of a generation, and right behind it one of a cell?
func toldOf(err error, generation, place int, code api.Code) bool {
	f, ok := err.(*fault.Fault)
	return ok && f.What == "generation" && f.At == generation && told(f.Err, place, code)
}

// wrongTables are those that may not be.
var wrongTables = []struct {
	t    table.Table
	code api.Code
}{
	{table.Table{}, api.ErrLattice},
	{table.Table{Lattice: 4}, api.ErrLattice},
	{table.Table{Lattice: -1, Born: [2]uint64{1, 1}}, api.ErrLattice},
	{table.Table{Lattice: math.MaxInt}, api.ErrLattice},
	{table.Table{Lattice: api.Hex, Born: [2]uint64{1, 0}}, api.ErrRule},
	{table.Table{Lattice: api.Hex, Born: [2]uint64{0, 2}}, api.ErrRule},
	{table.Table{Lattice: api.Hex, Stay: [2]uint64{0, 1}}, api.ErrRule},
	{table.Table{Lattice: api.Edge, Born: [2]uint64{0, 1}}, api.ErrRule},
	{table.Table{Lattice: api.Edge, Stay: [2]uint64{16, 0}}, api.ErrRule},
	{table.Table{Lattice: api.Vertex, Born: [2]uint64{1, 0}}, api.ErrRule},
	{table.Table{Lattice: api.Vertex, Stay: [2]uint64{0, 1 << 13}}, api.ErrRule},
}

func TestStepExamples(t *testing.T) {
	for _, x := range []struct {
		rule    string
		s, want set.Set
	}{
		{"B2/SH", set.Of(at(0, 0, 0), at(1, 0, 0)), set.Of(at(1, -1, 0), at(0, 1, 0))},
		{"B/SH", set.Of(at(0, 0, 0), at(1, 0, 0)), nil},
		{"B1/SH", set.Of(at(5, -3, 0)), set.Of(at(6, -3, 0), at(5, -2, 0), at(4, -2, 0), at(4, -3, 0), at(5, -4, 0), at(6, -4, 0))},
		{"B/S0H", set.Of(at(0, 0, 0), at(1, 0, 0), at(3, 0, 0)), set.Of(at(3, 0, 0))},
		{"B/S1H", set.Of(at(0, 0, 0), at(1, 0, 0), at(3, 0, 0)), set.Of(at(0, 0, 0), at(1, 0, 0))},
		{"B2o/SH", set.Of(at(1, 0, 0), at(-1, 0, 0)), nil},
		{"B2p/SH", set.Of(at(1, 0, 0), at(-1, 0, 0)), set.Of(at(0, 0, 0))},
		{"B2m/SH", set.Of(at(1, 0, 0), at(-1, 1, 0)), set.Of(at(0, 0, 0), at(0, 1, 0))},
		{"B1/S0E", set.Of(at(0, 0, 0)), set.Of(at(0, -1, 1), at(-1, 0, 1), at(0, 0, 0), at(0, 0, 1))},
		{"B1/SE", set.Of(at(0, 0, 1)), set.Of(at(0, 0, 0), at(1, 0, 0), at(0, 1, 0))},
		{"B2/SE", set.Of(at(1, 0, 0), at(0, 1, 0)), set.Of(at(0, 0, 1))},
		{"B1/S:B/SE", set.Of(at(0, 0, 0)), nil},
		{"B/S:B1/SE", set.Of(at(0, 0, 0)), set.Of(at(0, -1, 1), at(-1, 0, 1), at(0, 0, 1))},
		{"B/S0:B/SE", set.Of(at(0, 0, 0), at(5, 5, 1)), set.Of(at(0, 0, 0))},
		{"B/S:B/S0V", set.Of(at(0, 0, 0), at(5, 5, 1)), set.Of(at(5, 5, 1))},
	} {
		if u, err := flat.Step(parse(t, x.rule), x.s); err != nil || !slices.Equal(u, x.want) {
			t.Errorf("Step(%s, %v) = %v, %v", x.rule, x.s, u, err)
		}
	}
}

// Each of the six, by itself, makes just those hexagons alive that have it at its own bit of their rings.
func TestStepOfEachBitOfARing(t *testing.T) {
	for i, p := range axis.Six() {
		x := table.Table{Lattice: api.Hex, Born: [2]uint64{1 << (1 << i), 0}}
		if u := mustStep(t, x, set.Of(at(p.A, p.B, 0))); !slices.Equal(u, set.Set{at(0, 0, 0)}) {
			t.Errorf("born of bit %d alone: %v", i, u)
		}
	}
}

// One cell, in each of the neighbourhoods that there are, dead and alive: what becomes of it is what its bit says.
func TestStepOfEachNeighbourhood(t *testing.T) {
	for _, l := range lattices {
		for half := range l.Halves() {
			c := at(3, -7, half)
			for _, live := range []bool{false, true} {
				for n, s := range arrangements(l, c) {
					s = s.Put(c, live)
					x := table.Table{Lattice: l}
					bits := &x.Born
					if live {
						bits = &x.Stay
					}
					if live || n > 0 {
						bits[half] = 1 << n
						if u := mustStep(t, x, s); !u.Has(c) {
							t.Fatalf("Step(%v, %v) = %v lacks %v", x, s, u, c)
						}
					}
					x.Stay, x.Born = allBut(l, half, n, live)
					if u := mustStep(t, x, s); u.Has(c) {
						t.Fatalf("Step(%v, %v) = %v has %v", x, s, u, c)
					}
				}
			}
		}
	}
}

// arrangements are sets around a cell, one for each of its neighbourhoods, by their numbers.
func arrangements(l cell.Lattice, c cell.Cell) []set.Set {
	var all []set.Set
	if l == api.Hex {
		for ring := range 64 {
			var s set.Set
			for i, p := range axis.Six() {
				if ring>>i&1 == 1 {
					s = s.Put(at(c.At.A+p.A, c.At.B+p.B, 0), true)
				}
			}
			all = append(all, s)
		}
		return all
	}
	beside := touching(l, c)
	for n := range len(beside) + 1 {
		all = append(all, set.Of(beside[:n]...))
	}
	return all
}

// allBut is all bits that a table may have, but for the one of a cell's state, Half and neighbourhood.
func allBut(l cell.Lattice, half, n int, live bool) (stay, born [2]uint64) {
	for h := range l.Halves() {
		stay[h] = bitsOf(l)
		born[h] = bitsOf(l) &^ 1
	}
	if live {
		stay[half] &^= 1 << n
	} else {
		born[half] &^= 1 << n
	}
	return stay, born
}

// bitsOf are those of all neighbourhoods of a lattice.
func bitsOf(l cell.Lattice) uint64 {
	switch l {
	case api.Hex:
		return math.MaxUint64
	case api.Edge:
		return 1<<4 - 1
	}
	return 1<<13 - 1
}

func TestStepAgainstTheModel(t *testing.T) {
	r := rand.New(rand.NewSource(8))
	for _, l := range lattices {
		for range 120 {
			x := anyTable(r, l)
			s := some(r, l, r.Intn(60), 4)
			want := stepped(x, s)
			if u := mustStep(t, x, s); !slices.Equal(u, want) {
				t.Fatalf("Step(%v, %v) = %v, not %v", x, s, u, want)
			}
		}
	}
}

func TestStepsAgainstTheModel(t *testing.T) {
	r := rand.New(rand.NewSource(9))
	for _, l := range lattices {
		for range 12 {
			x := anyTable(r, l)
			s := some(r, l, 12, 2)
			want := s
			for n := range 5 {
				if u := mustSteps(t, x, s, n); !slices.Equal(u, want) {
					t.Fatalf("Steps(%v, %v, %d) = %v, not %v", x, s, n, u, want)
				}
				want = stepped(x, want)
			}
		}
	}
}

func TestStepsAreStepsOneBehindTheOther(t *testing.T) {
	r := rand.New(rand.NewSource(10))
	for _, l := range lattices {
		x := anyTable(r, l)
		s := some(r, l, 20, 3)
		all, byOne := mustSteps(t, x, s, 9), s
		for range 9 {
			byOne = mustStep(t, x, byOne)
		}
		if parts := mustSteps(t, x, mustSteps(t, x, s, 4), 5); !parts.Same(all) || !byOne.Same(all) {
			t.Errorf("%v of %v: 9 steps, 4 and 5, and one by one differ", x, s)
		}
	}
}

func TestStepsExamples(t *testing.T) {
	for _, x := range []struct {
		rule string
		s    set.Set
		n    int
		want set.Set
	}{
		{"B2/SH", set.Of(at(0, 0, 0), at(1, 0, 0)), 0, set.Of(at(0, 0, 0), at(1, 0, 0))},
		{"B2/SH", set.Of(at(0, 0, 0), at(1, 0, 0)), 1, set.Of(at(1, -1, 0), at(0, 1, 0))},
		{"B2m/SH", set.Of(at(1, 0, 0), at(-1, 1, 0)), 2, nil},
		{"B/S0H", set.Of(at(5, 5, 0)), 1000, set.Of(at(5, 5, 0))},
		{"B3/S2E", set.Of(at(0, -1, 1), at(-1, 0, 1), at(0, 0, 1)), 1, set.Of(at(0, 0, 0))},
		{"B3/S2E", set.Of(at(0, -1, 1), at(-1, 0, 1), at(0, 0, 1)), 2, nil},
		{"B1/S:B2/SE", set.Of(at(0, 0, 1)), 1, set.Of(at(0, 0, 0), at(1, 0, 0), at(0, 1, 0))},
	} {
		if u, err := flat.Steps(parse(t, x.rule), x.s, x.n); err != nil || !slices.Equal(u, x.want) {
			t.Errorf("Steps(%s, %v, %d) = %v, %v", x.rule, x.s, x.n, u, err)
		}
	}
}

// No generation is made of a set without cells: so as many as there are numbers end at once.
func TestStepsOfASetThatDiesOut(t *testing.T) {
	for _, text := range []string{"B/SH", "B2/SH", "B/SE", "B2/S3E", "B/SV", "B5/S4V"} {
		x := parse(t, text)
		for _, s := range []set.Set{nil, {}, {at(0, 0, 0)}, {at(1-far, 1-far, 0), at(far-1, far-1, 0)}} {
			for _, n := range []int{1, 2, 1 << 40, math.MaxInt} {
				if u, err := flat.Steps(x, s, n); err != nil || len(u) != 0 {
					t.Errorf("Steps(%s, %v, %d) = %v, %v", text, s, n, u, err)
				}
			}
		}
	}
}

func TestNoCells(t *testing.T) {
	r := rand.New(rand.NewSource(11))
	for _, l := range lattices {
		for _, s := range []set.Set{nil, {}} {
			x := anyTable(r, l)
			if u, err := flat.Step(x, s); err != nil || len(u) != 0 {
				t.Errorf("Step(%v, none) = %v, %v", x, u, err)
			}
			if u, err := flat.Steps(x, s, 0); err != nil || len(u) != 0 {
				t.Errorf("Steps(%v, none, 0) = %v, %v", x, u, err)
			}
		}
	}
}

// The table's error comes ahead of the set's, and ahead of that of cells at the edge.
func TestTablesThatMayNotBe(t *testing.T) {
	for _, x := range wrongTables {
		for _, s := range []set.Set{nil, {}, {at(0, 0, 0)}, {at(0, 0, 9)}, {at(1, 0, 0), at(0, 0, 0)}, {at(far, far, 0)}} {
			if u, err := flat.Step(x.t, s); u != nil || err != error(x.code) {
				t.Errorf("Step(%v, %v) = %v, %v", x.t, s, u, err)
			}
			for _, n := range []int{0, 1, 7, math.MaxInt} {
				if u, err := flat.Steps(x.t, s, n); u != nil || err != error(x.code) {
					t.Errorf("Steps(%v, %v, %d) = %v, %v", x.t, s, n, u, err)
				}
			}
		}
	}
}

func TestGenerationsBelowNought(t *testing.T) {
	tables := []table.Table{{Lattice: api.Hex}, {Lattice: api.Edge}, {Lattice: api.Vertex}}
	for _, x := range wrongTables {
		tables = append(tables, x.t)
	}
	for _, x := range tables {
		for _, s := range []set.Set{nil, {}, {at(0, 0, 0)}, {at(0, 0, 9)}, {at(far, 0, 0)}} {
			for _, n := range []int{-1, -2, math.MinInt} {
				if u, err := flat.Steps(x, s, n); u != nil || err != error(api.ErrArg) {
					t.Errorf("Steps(%v, %v, %d) = %v, %v", x, s, n, u, err)
				}
			}
		}
	}
}

// A set's error comes ahead of that of cells at the edge, and isn't one of a generation.
func TestListsThatAreNoSets(t *testing.T) {
	for _, x := range []struct {
		l     cell.Lattice
		s     set.Set
		place int
		code  api.Code
	}{
		{api.Hex, set.Set{at(0, 0, 1)}, 0, api.ErrArg},
		{api.Hex, set.Set{at(0, 0, 0), at(1, 0, -1)}, 1, api.ErrArg},
		{api.Edge, set.Set{at(0, 0, 0), at(0, 0, 1), at(0, 0, 2)}, 2, api.ErrArg},
		{api.Vertex, set.Set{at(0, 0, math.MinInt)}, 0, api.ErrArg},
		{api.Hex, set.Set{at(0, 0, 0), at(far+1, 0, 0)}, 1, api.ErrRange},
		{api.Edge, set.Set{at(0, -far-1, 1)}, 0, api.ErrRange},
		{api.Vertex, set.Set{at(math.MaxInt64, math.MinInt64, 1)}, 0, api.ErrRange},
		{api.Hex, set.Set{at(0, 0, 0), at(0, 0, 0)}, 1, api.ErrForm},
		{api.Hex, set.Set{at(0, 0, 0), at(1, 0, 0), at(0, 0, 0)}, 2, api.ErrForm},
		{api.Edge, set.Set{at(0, 0, 1), at(0, 0, 0)}, 1, api.ErrForm},
		{api.Vertex, set.Set{at(0, 1, 0), at(9, 0, 0), at(0, 0, 7)}, 1, api.ErrForm},
		{api.Hex, set.Set{at(-far, -far, 0), at(0, 0, 0), at(0, 0, 0)}, 2, api.ErrForm},
		{api.Vertex, set.Set{at(-far, 0, 0), at(far, 0, 1), at(far+1, 0, 0)}, 2, api.ErrRange},
	} {
		for _, y := range []table.Table{{Lattice: x.l}, {Lattice: x.l, Born: [2]uint64{2, 0}, Stay: [2]uint64{3, 0}}} {
			if u, err := flat.Step(y, x.s); u != nil || !told(err, x.place, x.code) {
				t.Errorf("Step(%v, %v) = %v, %v", y, x.s, u, err)
			}
			for _, n := range []int{0, 1, 5, math.MaxInt} {
				if u, err := flat.Steps(y, x.s, n); u != nil || !told(err, x.place, x.code) {
					t.Errorf("Steps(%v, %v, %d) = %v, %v", y, x.s, n, u, err)
				}
			}
		}
	}
}

// Cells at the edge, each ahead of and behind one whose neighbours can all be; place: of the first whose can't; -1: all can.
var edges = []struct {
	l     cell.Lattice
	s     set.Set
	place int
}{
	{api.Hex, set.Set{at(0, 0, 0), at(far, 0, 0)}, 1},
	{api.Hex, set.Set{at(-far, 0, 0), at(0, 0, 0)}, 0},
	{api.Hex, set.Set{at(0, -far, 0), at(0, 0, 0), at(0, far, 0)}, 0},
	{api.Hex, set.Set{at(0, 0, 0), at(1, 0, 0), at(0, far, 0), at(1, far, 0)}, 2},
	{api.Hex, set.Set{at(-far, -far, 0)}, 0},
	{api.Hex, set.Set{at(far, far, 0)}, 0},
	{api.Hex, set.Set{at(-far+1, -far+1, 0), at(far-1, -far+1, 0), at(-far+1, far-1, 0), at(far-1, far-1, 0)}, -1},
	{api.Edge, set.Set{at(far, 0, 0)}, -1},
	{api.Edge, set.Set{at(far, far, 0)}, -1},
	{api.Edge, set.Set{at(-far, -far, 1)}, -1},
	{api.Edge, set.Set{at(0, 0, 0), at(far, 0, 0), at(far, 0, 1)}, 2},
	{api.Edge, set.Set{at(-far, 0, 0), at(0, 0, 0)}, 0},
	{api.Edge, set.Set{at(-far, 0, 1), at(0, 0, 0)}, -1},
	{api.Edge, set.Set{at(0, -far, 0), at(0, -far, 1)}, 0},
	{api.Edge, set.Set{at(0, -far, 1), at(0, far, 0), at(0, far, 1)}, 2},
	{api.Vertex, set.Set{at(0, 0, 0), at(far, 0, 0)}, 1},
	{api.Vertex, set.Set{at(0, 0, 0), at(0, 0, 1), at(0, far, 1)}, 2},
	{api.Vertex, set.Set{at(-far, 0, 1), at(0, 0, 0)}, 0},
	{api.Vertex, set.Set{at(-far+1, -far+1, 0), at(far-1, far-1, 1)}, -1},
}

// Whether anything would be born there doesn't matter: cells whose neighbours can't be aren't stepped by any table.
func TestCellsAtTheEdge(t *testing.T) {
	for _, x := range edges {
		for _, y := range []table.Table{{Lattice: x.l}, {Lattice: x.l, Stay: [2]uint64{1, 0}}, {Lattice: x.l, Born: [2]uint64{2, 0}}} {
			u, err := flat.Step(y, x.s)
			again, errOfOne := flat.Steps(y, x.s, 1)
			if x.place < 0 {
				want := stepped(y, x.s)
				if err != nil || errOfOne != nil || !slices.Equal(u, want) || !slices.Equal(again, want) {
					t.Errorf("Step(%v, %v) = %v, %v; by Steps %v, %v", y, x.s, u, err, again, errOfOne)
				}
				continue
			}
			if u != nil || !told(err, x.place, api.ErrRange) {
				t.Errorf("Step(%v, %v) = %v, %v", y, x.s, u, err)
			}
			if again != nil || !toldOf(errOfOne, 0, x.place, api.ErrRange) {
				t.Errorf("Steps(%v, %v, 1) = %v, %v", y, x.s, again, errOfOne)
			}
		}
	}
}

// Of no generation nobody asks who stands beside a cell.
func TestNoGenerationAtTheEdge(t *testing.T) {
	for _, x := range edges {
		if u, err := flat.Steps(table.Table{Lattice: x.l}, x.s, 0); err != nil || !slices.Equal(u, x.s) {
			t.Errorf("Steps(%v, 0) = %v, %v", x.s, u, err)
		}
	}
}

func TestErrorInALaterGeneration(t *testing.T) {
	// By ring 8 alone a hexagon is born to the right of each that lives: a set goes right by one a generation.
	right := table.Table{Lattice: api.Hex, Born: [2]uint64{1 << 8, 0}}
	for _, x := range []struct {
		t          table.Table
		s          set.Set
		generation int
		place      int
	}{
		{right, set.Of(at(far-5, 0, 0)), 5, 0},
		{right, set.Of(at(-far+1, -3, 0), at(0, 0, 0), at(far-5, 0, 0), at(0, 7, 0)), 5, 2},
		{right, set.Of(at(far-1, 0, 0)), 1, 0},
		{right, set.Of(at(far-4, 0, 0), at(far-2, 9, 0)), 2, 1},
		{parse(t, "B1/S0H"), set.Of(at(0, far-1, 0)), 1, 5},
		{parse(t, "B1/SE"), set.Of(at(0, far, 0)), 1, 1},
		{parse(t, "B123/SV"), set.Of(at(-far+2, 0, 0)), 2, -1},
	} {
		for _, n := range []int{x.generation + 1, x.generation + 2, 1 << 40, math.MaxInt} {
			u, err := flat.Steps(x.t, x.s, n)
			place := x.place
			if place < 0 {
				place = firstAtTheEdge(x.t.Lattice, mustSteps(t, x.t, x.s, x.generation))
			}
			if u != nil || !toldOf(err, x.generation, place, api.ErrRange) {
				t.Errorf("Steps(%v, %v, %d) = %v, %v", x.t, x.s, n, u, err)
			}
		}
		if _, err := flat.Steps(x.t, x.s, x.generation); err != nil {
			t.Errorf("Steps(%v, %v, %d): %v", x.t, x.s, x.generation, err)
		}
	}
}

// firstAtTheEdge is which cell of a set is the first beside which one is beyond MaxCoord.
func firstAtTheEdge(l cell.Lattice, s set.Set) int {
	return slices.IndexFunc(s, func(c cell.Cell) bool {
		return slices.ContainsFunc(touching(l, c), func(d cell.Cell) bool { return !d.At.Good() })
	})
}

// Each list has room behind its end: a call that grew it in place would write there.
func TestWhatIsHandedInStays(t *testing.T) {
	for _, text := range []string{"B1/S0123E", "B/S0123E", "B12/S01234567V", "B/SV"} {
		x := parse(t, text)
		room := append(set.Of(at(0, 0, 0), at(1, 0, 1), at(4, 2, 0)), at(8, 8, 0), at(9, 9, 0), at(9, 9, 1))
		kept := slices.Clone(room)
		for n := range 3 {
			for i, u := range []set.Set{mustStep(t, x, room[:3]), mustSteps(t, x, room[:3], n)} {
				clear(u[:cap(u)])
				if !slices.Equal(room, kept) {
					t.Fatalf("%s: call %d changed what it was handed, or answered it: %v", text, i, room)
				}
			}
		}
	}
}

func TestAnswersAreAlike(t *testing.T) {
	r := rand.New(rand.NewSource(12))
	for _, l := range lattices {
		x, s := anyTable(r, l), some(r, l, 200, 12)
		first := mustSteps(t, x, s, 3)
		if first.Check(l) != nil {
			t.Errorf("%v isn't a set", first)
		}
		for range 5 {
			if u := mustSteps(t, x, s, 3); !slices.Equal(u, first) {
				t.Fatalf("Steps(%v, %v, 3) isn't the same each time", x, s)
			}
		}
	}
}
