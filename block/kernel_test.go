package block_test

import (
	"math"
	"math/rand"
	"testing"

	"honeycomb/api"
	"honeycomb/axis"
	"honeycomb/block"
	"honeycomb/cell"
	"honeycomb/flat"
	"honeycomb/rule"
	"honeycomb/set"
	"honeycomb/table"
)

var lattices = []cell.Lattice{api.Hex, api.Edge, api.Vertex}

func at(a, b int64, half int) cell.Cell {
	return cell.Cell{At: axis.Point{A: a, B: b}, Half: half}
}

func kernel(t *testing.T, y table.Table) *block.Kernel {
	t.Helper()
	k, err := block.New(y)
	if err != nil || k == nil {
		t.Fatalf("New(%v) = %v, %v", y, k, err)
	}
	return k
}

func parsed(t *testing.T, text string) *block.Kernel {
	t.Helper()
	y, err := rule.Parse(text)
	if err != nil {
		t.Fatal(err)
	}
	return kernel(t, y)
}

func TestNewOfTablesThatMayNotBe(t *testing.T) {
	for _, x := range []struct {
		t    table.Table
		code api.Code
	}{
		{table.Table{}, api.ErrLattice},
		{table.Table{Lattice: 4}, api.ErrLattice},
		{table.Table{Lattice: -1, Born: [2]uint64{1, 1}}, api.ErrLattice},
		{table.Table{Lattice: math.MinInt, Stay: [2]uint64{1, 1}}, api.ErrLattice},
		{table.Table{Lattice: api.Hex, Born: [2]uint64{1, 0}}, api.ErrRule},
		{table.Table{Lattice: api.Hex, Born: [2]uint64{0, 2}}, api.ErrRule},
		{table.Table{Lattice: api.Hex, Stay: [2]uint64{0, 1}}, api.ErrRule},
		{table.Table{Lattice: api.Edge, Born: [2]uint64{0, 1}}, api.ErrRule},
		{table.Table{Lattice: api.Edge, Born: [2]uint64{1 << 4, 0}}, api.ErrRule},
		{table.Table{Lattice: api.Edge, Stay: [2]uint64{0, 1 << 63}}, api.ErrRule},
		{table.Table{Lattice: api.Vertex, Born: [2]uint64{1, 0}}, api.ErrRule},
		{table.Table{Lattice: api.Vertex, Stay: [2]uint64{1 << 13, 0}}, api.ErrRule},
	} {
		if k, err := block.New(x.t); k != nil || err != error(x.code) {
			t.Errorf("New(%v) = %v, %v", x.t, k, err)
		}
	}
}

func TestTable(t *testing.T) {
	r := rand.New(rand.NewSource(11))
	for _, l := range lattices {
		for range 20 {
			y := anyTable(r, l)
			k := kernel(t, y)
			k.Step(fullBlock)
			if k.Table() != y {
				t.Errorf("the table of New(%v) is %v", y, k.Table())
			}
		}
	}
}

func TestStepExamples(t *testing.T) {
	for _, x := range []struct {
		rule    string
		s, want set.Set
	}{
		{"B2/SH", set.Of(at(3, 3, 0), at(4, 3, 0)), set.Of(at(4, 2, 0), at(3, 4, 0))},
		{"B2/SH", set.Of(at(0, 0, 0), at(1, 0, 0)), set.Of(at(0, 1, 0))},
		{"B2/SH", set.Of(at(6, 7, 0), at(7, 7, 0)), set.Of(at(7, 6, 0))},
		{"B1/SH", set.Of(at(0, 0, 0)), set.Of(at(1, 0, 0), at(0, 1, 0))},
		{"B1/SH", set.Of(at(7, 7, 0)), set.Of(at(6, 7, 0), at(7, 6, 0))},
		{"B1/SH", set.Of(at(7, 0, 0)), set.Of(at(6, 0, 0), at(7, 1, 0), at(6, 1, 0))},
		{"B1/SH", set.Of(at(0, 7, 0)), set.Of(at(1, 7, 0), at(0, 6, 0), at(1, 6, 0))},
		{"B/S0H", set.Of(at(7, 3, 0), at(0, 4, 0), at(0, 3, 0)), set.Of(at(7, 3, 0))},
		{"B1/S0E", set.Of(at(3, 4, 0)), set.Of(at(3, 3, 1), at(2, 4, 1), at(3, 4, 0), at(3, 4, 1))},
		{"B1/SE", set.Of(at(0, 0, 0)), set.Of(at(0, 0, 1))},
		{"B1/SE", set.Of(at(7, 7, 1)), set.Of(at(7, 7, 0))},
		{"B1/SE", set.Of(at(7, 3, 1)), set.Of(at(7, 3, 0), at(7, 4, 0))},
		{"B1/S:B/SE", set.Of(at(3, 3, 0)), nil},
		{"B/S:B1/SE", set.Of(at(3, 3, 0)), set.Of(at(3, 2, 1), at(2, 3, 1), at(3, 3, 1))},
		{"B1/SV", set.Of(at(0, 0, 0)), set.Of(at(0, 0, 1), at(1, 0, 0), at(0, 1, 0))},
		{"B/SV", set.Of(at(0, 0, 0), at(5, 5, 1)), nil},
	} {
		want := blockOf(axis.Point{}, x.want)
		if y := parsed(t, x.rule).Step(blockOf(axis.Point{}, x.s)); y != want {
			t.Errorf("%s: Step of %v = %x, not %x", x.rule, x.s, y, want)
		}
	}
}

// All tables with one bit, and all without one, of blocks of any bits: no neighbourhood is taken for another one.
func TestStepOfEachNeighbourhood(t *testing.T) {
	r := rand.New(rand.NewSource(12))
	for _, l := range lattices {
		for _, y := range singles(l) {
			k := kernel(t, y)
			for i := range 6 {
				x := anyBlock(r, i%4)
				if got, want := k.Step(x), stepped(t, y, x); got != want {
					t.Fatalf("%v: Step of %x = %x, not %x", y, x, got, want)
				}
			}
		}
	}
}

func TestStepOfAnyTable(t *testing.T) {
	r := rand.New(rand.NewSource(13))
	for _, l := range lattices {
		for i := range 300 {
			y, x := anyTable(r, l), anyBlock(r, 1+i%3)
			if got, want := kernel(t, y).Step(x), stepped(t, y, x); got != want {
				t.Fatalf("%v: Step of %x = %x, not %x", y, x, got, want)
			}
		}
	}
}

// One cell at each point, and all but it: at the corners and edges nobody outside lives, nor does the other end of a row.
func TestStepOfEachPoint(t *testing.T) {
	for _, text := range []string{"B1/S0H", "B5/S56H", "B1/S0E", "B2/S23E", "B1/S0V", "B7bc/S9abcV", "B1/S:B/S0V"} {
		k := parsed(t, text)
		for _, x := range anyBlocks(rand.New(rand.NewSource(14))) {
			if got, want := k.Step(x), stepped(t, k.Table(), x); got != want {
				t.Fatalf("%s: Step of %x = %x, not %x", text, x, got, want)
			}
		}
	}
}

func TestStepOfNoCellsAndOfAll(t *testing.T) {
	r := rand.New(rand.NewSource(15))
	for _, l := range lattices {
		for range 30 {
			y := anyTable(r, l)
			k := kernel(t, y)
			if x := k.Step(block.Block{}); !x.Empty() {
				t.Errorf("%v: Step of no cells = %x", y, x)
			}
			if got, want := k.Step(fullBlock), stepped(t, y, fullBlock); got != want {
				t.Errorf("%v: Step of all = %x, not %x", y, got, want)
			}
		}
	}
	if x := parsed(t, "B/S6H").Step(fullBlock); x != (block.Block{1: 0x1554, 2: 0x1554, 3: 0x1554, 4: 0x1554, 5: 0x1554, 6: 0x1554}) {
		t.Errorf("those with all around them are %x", x)
	}
}

// Of hexagons there is Half 0 alone: the other bits count for nothing, and are 0 then, also if only they are 1.
func TestStepOfHexWithHalfOne(t *testing.T) {
	const zero, one = 0x5555, 0xaaaa
	r := rand.New(rand.NewSource(16))
	for range 300 {
		y, x := anyTable(r, api.Hex), anyBlock(r, 1)
		plain, others := x, x
		for b := range x {
			plain[b] &= zero
			others[b] &= one
		}
		k := kernel(t, y)
		got := k.Step(x)
		if got != k.Step(plain) || !k.Step(others).Empty() {
			t.Fatalf("%v: Step of %x = %x, without Half 1 %x", y, x, got, k.Step(plain))
		}
		for b := range got {
			if got[b]&one != 0 {
				t.Fatalf("%v: Step of %x = %x", y, x, got)
			}
		}
	}
}

// around is a block's cells, all around it others, a few points wide, and where the block's least point is.
func around(r *rand.Rand, l cell.Lattice, x block.Block, thinned int) (set.Set, axis.Point) {
	const wide = 5
	low := axis.Point{A: r.Int63n(100) - 50, B: r.Int63n(100) - 50}
	var cells []cell.Cell
	for _, c := range cellsOf(l, x) {
		cells = append(cells, at(low.A+c.At.A, low.B+c.At.B, c.Half))
	}
	for b := int64(-wide); b < 8+wide; b++ {
		for a := int64(-wide); a < 8+wide; a++ {
			for half := range l.Halves() {
				inside := 0 <= a && a < 8 && 0 <= b && b < 8
				if !inside && r.Intn(1<<thinned) == 0 {
					cells = append(cells, at(low.A+a, low.B+b, half))
				}
			}
		}
	}
	return set.Of(cells...), low
}

// INSIDE: whatever lives outside (nobody, few, many, all), the Middle two generations on is that of Step of Step.
func TestInside(t *testing.T) {
	r := rand.New(rand.NewSource(17))
	for _, l := range lattices {
		seen := 0
		for i := range 120 {
			y, x := anyTable(r, l), anyBlock(r, 1+i%3)
			k := kernel(t, y)
			once := k.Step(x)
			twice := k.Step(once)
			for thinned := range 4 {
				s, low := around(r, l, x, thinned)
				then, err := flat.Steps(y, s, 2)
				if err != nil {
					t.Fatal(err)
				}
				whole := blockOf(low, then)
				if got, want := twice.Middle(), whole.Middle(); got != want {
					t.Fatalf("%v: %x two generations on has %x in its middle, not %x, with %v around", y, x, got, want, s)
				}
				if whole != twice {
					seen++
				}
			}
		}
		// Others around do change what is nearer to the edge: else nothing would be shown here.
		if seen == 0 {
			t.Errorf("%s: nobody outside changes anything", l.Name())
		}
	}
}

// A Step changes neither the kernel nor what it is handed: it is the same each time, whatever was asked between.
func TestStepsAreAlike(t *testing.T) {
	r := rand.New(rand.NewSource(18))
	for _, l := range lattices {
		y := anyTable(r, l)
		k, other := kernel(t, y), kernel(t, y)
		x := anyBlock(r, 1)
		kept := x
		first := k.Step(x)
		for range 20 {
			k.Step(anyBlock(r, 2))
			kernel(t, anyTable(r, l)).Step(x)
			if k.Step(x) != first || other.Step(x) != first || x != kept {
				t.Fatalf("%v: Step of %x isn't the same each time", y, x)
			}
		}
	}
}

// A kernel that New didn't make has no table by which anything lives.
func TestKernelWithoutATable(t *testing.T) {
	k := &block.Kernel{}
	if k.Table() != (table.Table{}) || !k.Step(fullBlock).Empty() {
		t.Errorf("Step = %x by %v", k.Step(fullBlock), k.Table())
	}
}
