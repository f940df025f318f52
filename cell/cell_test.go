package cell_test

import (
	"math"
	"slices"
	"testing"

	"honeycomb/api"
	"honeycomb/axis"
	"honeycomb/cell"
)

// The calls have just these signatures.
var (
	_ func(cell.Lattice) bool                                         = cell.Lattice.Good
	_ func(cell.Lattice) int                                          = cell.Lattice.Halves
	_ func(cell.Lattice) string                                       = cell.Lattice.Name
	_ func(string) cell.Lattice                                       = cell.Named
	_ func(cell.Lattice, cell.Cell) error                             = cell.Lattice.Check
	_ func(cell.Cell, cell.Cell) int                                  = cell.Compare
	_ func(cell.Lattice, cell.Cell) ([]cell.Cell, error)              = cell.Lattice.Beside
	_ func(cell.Lattice, axis.Operator, cell.Cell) (cell.Cell, error) = cell.Lattice.On
	_ struct {
		At   axis.Point
		Half int
	} = cell.Cell{}
	_ map[cell.Cell]struct{} = nil
)

const (
	far    = api.MaxCoord
	hex    = cell.Lattice(api.Hex)
	edge   = cell.Lattice(api.Edge)
	vertex = cell.Lattice(api.Vertex)
)

var (
	lattices = []cell.Lattice{hex, edge, vertex}
	none     = []cell.Lattice{0, -1, 4, 5, math.MinInt, math.MaxInt}
	noOnes   = []axis.Operator{-1, -6, -12, 12, 13, math.MinInt, math.MaxInt}
	words    = map[cell.Lattice]string{hex: "hex", edge: "edge", vertex: "vertex"}
	crowds   = map[cell.Lattice]int{hex: 6, edge: 3, vertex: 12}
)

// matrices are the operators written out: {a, b, c, d} brings (x, y) to (ax + by, cx + dy).
var matrices = [api.Operators][4]int64{
	{1, 0, 0, 1}, {0, -1, 1, 1}, {-1, -1, 1, 0}, {-1, 0, 0, -1}, {0, 1, -1, -1}, {1, 1, -1, 0},
	{0, 1, 1, 0}, {-1, 0, 1, 1}, {-1, -1, 0, 1}, {0, -1, -1, 0}, {1, 0, -1, -1}, {1, 1, 0, -1},
}

// edges are coordinates of good points near 0 and at MaxCoord, and some of points that aren't good.
var edges = []int64{math.MinInt64, -far - 2, -far - 1, -far, -far + 1, -1, 0, 1, far - 1, far, far + 1, far + 2, math.MaxInt64}

func at(a, b int64, half int) cell.Cell {
	return cell.Cell{At: axis.Point{A: a, B: b}, Half: half}
}

// cellsOf is the lattice's cells of all pairs of these coordinates, rising if they are.
func cellsOf(l cell.Lattice, coordinates ...int64) []cell.Cell {
	var cells []cell.Cell
	for _, b := range coordinates {
		for _, a := range coordinates {
			cells = append(cells, at(a, b, 0))
			if l != hex {
				cells = append(cells, at(a, b, 1))
			}
		}
	}
	return cells
}

// grid is the cells of points at most three away from the origin on either axis.
func grid(l cell.Lattice) []cell.Cell {
	return cellsOf(l, -3, -2, -1, 0, 1, 2, 3)
}

func good(p axis.Point) bool {
	return -far <= p.A && p.A <= far && -far <= p.B && p.B <= far
}

// corners are those of a triangle, as the chapter lists them.
func corners(c cell.Cell) map[axis.Point]int {
	a, b := c.At.A, c.At.B
	if c.Half == 0 {
		return map[axis.Point]int{{A: a, B: b}: 1, {A: a + 1, B: b}: 1, {A: a, B: b + 1}: 1}
	}
	return map[axis.Point]int{{A: a + 1, B: b}: 1, {A: a, B: b + 1}: 1, {A: a + 1, B: b + 1}: 1}
}

// touch: do two cells stand beside each other, by the chapter's words?
func touch(l cell.Lattice, c, d cell.Cell) bool {
	if l == hex {
		six := axis.Six()
		return slices.Contains(six[:], axis.Point{A: d.At.A - c.At.A, B: d.At.B - c.At.B})
	}
	shared, others := 0, corners(d)
	for p := range corners(c) {
		shared += others[p]
	}
	return shared == 2 || l == vertex && shared == 1
}

// beside is those of a cell far from all limits, looked for among more cells than can be beside it.
func beside(l cell.Lattice, c cell.Cell) []cell.Cell {
	var cells []cell.Cell
	for _, d := range grid(l) {
		d.At = axis.Point{A: d.At.A + c.At.A, B: d.At.B + c.At.B}
		if touch(l, c, d) {
			cells = append(cells, d)
		}
	}
	return cells
}

// brought is where an operator brings a cell. A triangle's middle, times three, is the sum of its corners,
// and says all of it: (3a + 1, 3b + 1) that of Half 0, (3a + 2, 3b + 2) that of Half 1.
func brought(l cell.Lattice, o axis.Operator, c cell.Cell) cell.Cell {
	m := matrices[o]
	move := func(a, b int64) (int64, int64) { return m[0]*a + m[1]*b, m[2]*a + m[3]*b }
	if l == hex {
		a, b := move(c.At.A, c.At.B)
		return at(a, b, 0)
	}
	third := int64(c.Half + 1)
	a, b := move(3*c.At.A+third, 3*c.At.B+third)
	half := (a%3+3)%3 - 1
	return at((a-half-1)/3, (b-half-1)/3, int(half))
}

func mustBeside(t *testing.T, l cell.Lattice, c cell.Cell) []cell.Cell {
	t.Helper()
	cells, err := l.Beside(c)
	if err != nil {
		t.Fatalf("beside %v of %s: %v", c, l.Name(), err)
	}
	return cells
}

func mustOn(t *testing.T, l cell.Lattice, o axis.Operator, c cell.Cell) cell.Cell {
	t.Helper()
	d, err := l.On(o, c)
	if err != nil {
		t.Fatalf("%d on %v of %s: %v", o, c, l.Name(), err)
	}
	return d
}

func TestLattices(t *testing.T) {
	for _, l := range lattices {
		if !l.Good() || l.Name() != words[l] || cell.Named(words[l]) != l {
			t.Errorf("%d: %v, %q, %d", l, l.Good(), l.Name(), cell.Named(words[l]))
		}
	}
	for _, l := range none {
		if l.Good() || l.Name() != "" {
			t.Errorf("%d: %v, %q", l, l.Good(), l.Name())
		}
	}
}

func TestHalves(t *testing.T) {
	if hex.Halves() != 1 {
		t.Errorf("hex: %d", hex.Halves())
	}
	for _, l := range append([]cell.Lattice{edge, vertex}, none...) {
		if l.Halves() != 2 {
			t.Errorf("%d: %d", l, l.Halves())
		}
	}
}

func TestNamedOfNoWord(t *testing.T) {
	for _, s := range []string{"", " ", "Hex", "HEX", "hex ", " hex", "hexagon", "he", "edges", "vertices", "vertex\x00", "1", "h\xffx", "hexedge"} {
		if l := cell.Named(s); l != 0 {
			t.Errorf("Named(%q) = %d", s, l)
		}
	}
}

// halves are numbers of halves that cells may have, and others.
var halves = []int{math.MinInt, -2, -1, 0, 1, 2, 3, math.MaxInt}

// wrong is the error of a cell, by the chapter's words.
func wrong(l cell.Lattice, c cell.Cell) error {
	if l != hex && l != edge && l != vertex {
		return api.ErrLattice
	}
	if c.Half != 0 && (c.Half != 1 || l == hex) {
		return api.ErrArg
	}
	if !good(c.At) {
		return api.ErrRange
	}
	return nil
}

func TestCheck(t *testing.T) {
	for _, l := range append(none, lattices...) {
		for _, half := range halves {
			for _, c := range cellsOf(hex, edges...) {
				c.Half = half
				if err := l.Check(c); err != wrong(l, c) {
					t.Fatalf("%d.Check(%v) = %v", l, c, err)
				}
			}
		}
	}
}

func TestCheckExamples(t *testing.T) {
	for _, x := range []struct {
		l   cell.Lattice
		c   cell.Cell
		err error
	}{
		{hex, at(far, -far, 0), nil},
		{vertex, at(-far, far, 1), nil},
		{0, at(far+1, 0, 9), api.ErrLattice},
		{4, at(0, 0, 0), api.ErrLattice},
		{hex, at(far+1, 0, 1), api.ErrArg},
		{edge, at(0, 0, -1), api.ErrArg},
		{vertex, at(0, 0, 2), api.ErrArg},
		{edge, at(0, -far-1, 1), api.ErrRange},
	} {
		if err := x.l.Check(x.c); err != x.err {
			t.Errorf("%d.Check(%v) = %v", x.l, x.c, err)
		}
	}
}

func TestCompare(t *testing.T) {
	var rising []cell.Cell
	for _, c := range cellsOf(hex, edges...) {
		for _, half := range halves {
			rising = append(rising, at(c.At.A, c.At.B, half))
		}
	}
	for i, c := range rising {
		for k, d := range rising {
			want := 0
			if i < k {
				want = -1
			} else if i > k {
				want = 1
			}
			if got := cell.Compare(c, d); got != want {
				t.Fatalf("Compare(%v, %v) = %d", c, d, got)
			}
		}
	}
}

func TestCompareGoesRowByRow(t *testing.T) {
	rising := []cell.Cell{at(9, -1, 1), at(-5, 0, 1), at(0, 0, 0), at(0, 0, 1), at(1, 0, 0), at(-9, 1, 0)}
	for i, c := range rising[1:] {
		if cell.Compare(rising[i], c) != -1 || cell.Compare(c, rising[i]) != 1 || cell.Compare(c, c) != 0 {
			t.Errorf("%v isn't ahead of %v", rising[i], c)
		}
	}
}

func TestBesideExamples(t *testing.T) {
	for _, x := range []struct {
		l    cell.Lattice
		c    cell.Cell
		want []cell.Cell
	}{
		{hex, at(0, 0, 0), []cell.Cell{at(0, -1, 0), at(1, -1, 0), at(-1, 0, 0), at(1, 0, 0), at(-1, 1, 0), at(0, 1, 0)}},
		{edge, at(0, 0, 0), []cell.Cell{at(0, -1, 1), at(-1, 0, 1), at(0, 0, 1)}},
		{edge, at(5, -7, 1), []cell.Cell{at(5, -7, 0), at(6, -7, 0), at(5, -6, 0)}},
		{vertex, at(0, 0, 1), []cell.Cell{
			at(1, -1, 0), at(1, -1, 1), at(-1, 0, 1), at(0, 0, 0), at(1, 0, 0), at(1, 0, 1),
			at(-1, 1, 0), at(-1, 1, 1), at(0, 1, 0), at(0, 1, 1), at(1, 1, 0), at(0, -1, 1),
		}},
	} {
		slices.SortFunc(x.want, cell.Compare)
		if got := mustBeside(t, x.l, x.c); !slices.Equal(got, x.want) {
			t.Errorf("beside %v of %s: %v", x.c, x.l.Name(), got)
		}
	}
}

func TestBesideOfEachCell(t *testing.T) {
	for _, l := range lattices {
		for _, c := range grid(l) {
			got := mustBeside(t, l, c)
			if len(got) != crowds[l] || !slices.Equal(got, beside(l, c)) {
				t.Errorf("beside %v of %s: %v", c, l.Name(), got)
			}
			if !slices.IsSortedFunc(got, cell.Compare) {
				t.Errorf("beside %v of %s not rising: %v", c, l.Name(), got)
			}
		}
	}
}

func TestBesideAtTheEdges(t *testing.T) {
	for _, l := range lattices {
		for _, c := range cellsOf(l, -far, -far+1, 0, far-1, far) {
			want := beside(l, c)
			beyond := slices.ContainsFunc(want, func(d cell.Cell) bool { return !good(d.At) })
			got, err := l.Beside(c)
			if beyond && (err != api.ErrRange || got != nil) {
				t.Errorf("beside %v of %s: %v, %v", c, l.Name(), got, err)
			}
			if !beyond && (err != nil || !slices.Equal(got, want)) {
				t.Errorf("beside %v of %s: %v, %v", c, l.Name(), got, err)
			}
		}
	}
}

// Of two triangles at one point at the edge, one may have all its neighbours there, and the other one not.
func TestBesideBeyondHangsOnTheCell(t *testing.T) {
	for _, x := range []struct {
		l   cell.Lattice
		c   cell.Cell
		err error
	}{
		{edge, at(-far, -far, 1), nil},
		{edge, at(-far, 0, 0), api.ErrRange},
		{edge, at(far, far, 0), nil},
		{edge, at(0, far, 1), api.ErrRange},
		{vertex, at(-far, 0, 1), api.ErrRange},
		{vertex, at(0, far, 0), api.ErrRange},
		{vertex, at(far-1, 1-far, 0), nil},
		{hex, at(0, -far, 0), api.ErrRange},
		{hex, at(1-far, far-1, 0), nil},
	} {
		if _, err := x.l.Beside(x.c); err != x.err {
			t.Errorf("beside %v of %s: %v", x.c, x.l.Name(), err)
		}
	}
}

func TestBesideOfNoCell(t *testing.T) {
	for _, l := range append(none, lattices...) {
		for _, half := range halves {
			for _, c := range cellsOf(hex, edges...) {
				c.Half = half
				if err := wrong(l, c); err != nil {
					if got, e := l.Beside(c); e != err || got != nil {
						t.Fatalf("%d.Beside(%v) = %v, %v", l, c, got, e)
					}
				}
			}
		}
	}
}

func TestBesideAnswersNewMemory(t *testing.T) {
	first := mustBeside(t, vertex, at(4, 5, 0))
	kept := slices.Clone(first)
	second := mustBeside(t, vertex, at(4, 5, 0))
	clear(second[:cap(second)])
	if !slices.Equal(first, kept) || !slices.Equal(mustBeside(t, vertex, at(4, 5, 0)), kept) {
		t.Error("two answers share memory")
	}
}

func TestBesideEachOther(t *testing.T) {
	for _, l := range lattices {
		for _, c := range append(grid(l), cellsOf(l, -far, -far+1, far-1, far)...) {
			cells, err := l.Beside(c)
			if err != nil {
				continue
			}
			if slices.Contains(cells, c) {
				t.Errorf("%v of %s is beside itself", c, l.Name())
			}
			for _, d := range cells {
				if back, err := l.Beside(d); err == nil && !slices.Contains(back, c) {
					t.Errorf("%v of %s has %v beside it, but not the other way round", c, l.Name(), d)
				}
			}
		}
	}
}

func TestOnExamples(t *testing.T) {
	for _, x := range []struct {
		l    cell.Lattice
		o    axis.Operator
		c, d cell.Cell
	}{
		{hex, 1, at(1, 0, 0), at(0, 1, 0)},
		{hex, 6, at(2, -1, 0), at(-1, 2, 0)},
		{vertex, 1, at(0, 0, 0), at(-1, 0, 1)},
		{edge, 3, at(0, 0, 0), at(-1, -1, 1)},
		{edge, 6, at(3, -2, 1), at(-2, 3, 1)},
		{vertex, 2, at(0, 0, 1), at(-2, 0, 1)},
		{vertex, 7, at(0, 0, 0), at(-1, 0, 1)},
	} {
		if d := mustOn(t, x.l, x.o, x.c); d != x.d {
			t.Errorf("%d on %v of %s: %v", x.o, x.c, x.l.Name(), d)
		}
	}
}

func TestOnOfEachCell(t *testing.T) {
	for _, l := range lattices {
		for _, c := range append(grid(l), cellsOf(l, -far, -far+1, -1, 0, 1, far-1, far)...) {
			for o := range axis.Operator(api.Operators) {
				var want cell.Cell
				var wantErr error = api.ErrRange
				if d := brought(l, o, c); good(d.At) {
					want, wantErr = d, nil
				}
				if got, err := l.On(o, c); got != want || err != wantErr {
					t.Fatalf("%d on %v of %s: %v, %v", o, c, l.Name(), got, err)
				}
			}
		}
	}
}

// A corner, or where the cell's point is brought, may lie beyond MaxCoord: the cell that is reached counts alone.
func TestOnAsksForTheCellAlone(t *testing.T) {
	for _, x := range []struct {
		l    cell.Lattice
		o    axis.Operator
		c, d cell.Cell
		err  error
	}{
		{edge, 0, at(far, far, 1), at(far, far, 1), nil},
		{edge, 6, at(far, -far, 0), at(-far, far, 0), nil},
		{vertex, 3, at(far, 0, 0), cell.Cell{}, api.ErrRange},
		{vertex, 3, at(far-1, 0, 1), at(-far, -1, 0), nil},
		{vertex, 1, at(-far, -1, 1), at(0, -far, 0), nil},
		{hex, 1, at(-far, -1, 0), cell.Cell{}, api.ErrRange},
		{hex, 3, at(-far, far, 0), at(far, -far, 0), nil},
	} {
		if d, err := x.l.On(x.o, x.c); d != x.d || err != x.err {
			t.Errorf("%d on %v of %s: %v, %v", x.o, x.c, x.l.Name(), d, err)
		}
	}
}

func TestOnOfNoCell(t *testing.T) {
	for _, l := range append(none, lattices...) {
		for _, c := range []cell.Cell{at(0, 0, -1), at(0, 0, 2), at(far+1, 0, 0), at(0, -far-1, 0), at(math.MinInt64, math.MaxInt64, 3)} {
			for _, o := range append(noOnes, 0, 1, 6, 11) {
				if d, err := l.On(o, c); err != wrong(l, c) || d != (cell.Cell{}) {
					t.Errorf("%d of lattice %d on %v: %v, %v", o, l, c, d, err)
				}
			}
		}
	}
}

func TestOnOfNoOperator(t *testing.T) {
	for _, l := range lattices {
		for _, o := range noOnes {
			for _, c := range []cell.Cell{at(0, 0, 0), at(far, far, 0), at(-far, 3, 0)} {
				if d, err := l.On(o, c); err != api.ErrArg || d != (cell.Cell{}) {
					t.Errorf("%d on %v of %s: %v, %v", o, c, l.Name(), d, err)
				}
			}
		}
	}
}

func TestSymmetryKeepsBeside(t *testing.T) {
	for _, l := range lattices {
		for o := range axis.Operator(api.Operators) {
			for _, c := range grid(l) {
				var want []cell.Cell
				for _, d := range mustBeside(t, l, c) {
					want = append(want, mustOn(t, l, o, d))
				}
				slices.SortFunc(want, cell.Compare)
				if got := mustBeside(t, l, mustOn(t, l, o, c)); !slices.Equal(got, want) {
					t.Fatalf("%d on %v of %s: %v, not %v", o, c, l.Name(), got, want)
				}
			}
		}
	}
}

func TestSymmetryBringsNoTwoToOne(t *testing.T) {
	for _, l := range lattices {
		for o := range axis.Operator(api.Operators) {
			from := map[cell.Cell]cell.Cell{}
			for _, c := range grid(l) {
				d := mustOn(t, l, o, c)
				if first, taken := from[d]; taken {
					t.Fatalf("%d of %s brings %v and %v to %v", o, l.Name(), first, c, d)
				}
				from[d] = c
				if mustOn(t, l, o.Back(), d) != c {
					t.Fatalf("%d.Back() of %s doesn't undo it of %v", o, l.Name(), c)
				}
			}
		}
	}
}

func TestSymmetryGoesOneBehindTheOther(t *testing.T) {
	for _, l := range lattices {
		for o := range axis.Operator(api.Operators) {
			for p := range axis.Operator(api.Operators) {
				for _, c := range grid(l) {
					if got, want := mustOn(t, l, o.Then(p), c), mustOn(t, l, p, mustOn(t, l, o, c)); got != want {
						t.Fatalf("%d, then %d, on %v of %s: %v, not %v", o, p, c, l.Name(), got, want)
					}
				}
			}
		}
	}
}
