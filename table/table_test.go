package table_test

import (
	"math"
	"math/bits"
	"slices"
	"testing"

	"honeycomb/api"
	"honeycomb/axis"
	"honeycomb/cell"
	"honeycomb/table"
)

// The calls have just these signatures.
var (
	_ func(table.Table) error                = table.Table.Check
	_ func(table.Table, int, bool, int) bool = table.Table.Next
	_ func(int) table.Class                  = table.Ring
	_ func() []table.Class                   = table.Classes
	_ func(table.Class) uint64               = table.Rings
	_ struct {
		Lattice    cell.Lattice
		Born, Stay [2]uint64
	} = table.Table{}
	_ struct {
		Count  int
		Letter byte
	} = table.Class{}
	_ map[table.Table]struct{} = nil
	_ map[table.Class]struct{} = nil
)

// classes are all of them in their order, each with one of its rings: the others are that one, turned and mirrored.
var classes = []struct {
	class table.Class
	ring  int
	size  int
}{
	{table.Class{Count: 0}, 0, 1},
	{table.Class{Count: 1}, 1, 6},
	{table.Class{Count: 2, Letter: 'o'}, 0b000011, 6},
	{table.Class{Count: 2, Letter: 'm'}, 0b000101, 6},
	{table.Class{Count: 2, Letter: 'p'}, 0b001001, 3},
	{table.Class{Count: 3, Letter: 'o'}, 0b000111, 6},
	{table.Class{Count: 3, Letter: 'm'}, 0b001011, 12},
	{table.Class{Count: 3, Letter: 'p'}, 0b010101, 2},
	{table.Class{Count: 4, Letter: 'o'}, 0b001111, 6},
	{table.Class{Count: 4, Letter: 'm'}, 0b010111, 6},
	{table.Class{Count: 4, Letter: 'p'}, 0b011011, 3},
	{table.Class{Count: 5}, 0b011111, 6},
	{table.Class{Count: 6}, 0b111111, 1},
}

// none are classes that there aren't.
var none = []table.Class{
	{Count: -1}, {Count: 7}, {Count: math.MinInt}, {Count: math.MaxInt}, {Count: 64}, {Count: 2 + 64, Letter: 'o'},
	{Count: 2}, {Count: 3}, {Count: 4},
	{Count: 0, Letter: 'o'}, {Count: 1, Letter: 'o'}, {Count: 1, Letter: 'm'}, {Count: 5, Letter: 'p'}, {Count: 6, Letter: 'o'},
	{Count: 2, Letter: 'O'}, {Count: 3, Letter: 'n'}, {Count: 4, Letter: '0'}, {Count: 4, Letter: 255}, {Count: 2, Letter: 1},
}

// brought is a ring whose neighbours an operator has brought elsewhere.
func brought(t *testing.T, o axis.Operator, ring int) int {
	t.Helper()
	six, other := axis.Six(), 0
	for i, p := range six {
		q, err := o.On(p)
		if err != nil {
			t.Fatal(err)
		}
		other |= ring >> i & 1 << slices.Index(six[:], q)
	}
	return other
}

// orbit is a ring, turned and mirrored in all ways, as bits of the rings' numbers.
func orbit(t *testing.T, ring int) uint64 {
	var rings uint64
	for o := range axis.Operator(api.Operators) {
		rings |= 1 << brought(t, o, ring)
	}
	return rings
}

func TestCheckOfTablesThatMayBe(t *testing.T) {
	for _, x := range []table.Table{
		{Lattice: api.Hex},
		{Lattice: api.Edge},
		{Lattice: api.Vertex},
		{Lattice: api.Hex, Born: [2]uint64{math.MaxUint64 - 1}, Stay: [2]uint64{math.MaxUint64}},
		{Lattice: api.Edge, Born: [2]uint64{0b1110, 0b1110}, Stay: [2]uint64{0b1111, 0b1111}},
		{Lattice: api.Vertex, Born: [2]uint64{0x1ffe, 0x1ffe}, Stay: [2]uint64{0x1fff, 0x1fff}},
		{Lattice: api.Edge, Stay: [2]uint64{1, 0}},
		{Lattice: api.Vertex, Stay: [2]uint64{0, 1}},
	} {
		if err := x.Check(); err != nil {
			t.Errorf("%v.Check() = %v", x, err)
		}
	}
}

func TestCheckOfNoLattice(t *testing.T) {
	for _, l := range []cell.Lattice{0, -1, 4, 5, math.MinInt, math.MaxInt} {
		for _, born := range []uint64{0, 1, 2, math.MaxUint64} {
			x := table.Table{Lattice: l, Born: [2]uint64{born, born}}
			if err := x.Check(); err != error(api.ErrLattice) {
				t.Errorf("%v.Check() = %v", x, err)
			}
		}
	}
}

// may: may this bit be 1, by the chapter's words?
func may(l cell.Lattice, born bool, half, bit int) bool {
	if born && bit == 0 || l == api.Hex && half == 1 {
		return false
	}
	most := map[cell.Lattice]int{api.Hex: 63, api.Edge: 3, api.Vertex: 12}
	return bit <= most[l]
}

func TestCheckOfEachBit(t *testing.T) {
	for _, l := range []cell.Lattice{api.Hex, api.Edge, api.Vertex} {
		for half := range 2 {
			for bit := range 64 {
				born, stay := table.Table{Lattice: l}, table.Table{Lattice: l}
				born.Born[half] = 1 << bit
				stay.Stay[half] = 1 << bit
				checkOf(t, born, may(l, true, half, bit))
				checkOf(t, stay, may(l, false, half, bit))
				// A wrong bit isn't hidden by right ones.
				born.Born[0] |= 2
				stay.Born[0] |= 4
				checkOf(t, born, may(l, true, half, bit))
				checkOf(t, stay, may(l, false, half, bit))
			}
		}
	}
}

func checkOf(t *testing.T, x table.Table, good bool) {
	t.Helper()
	err := x.Check()
	if good && err != nil || !good && err != error(api.ErrRule) {
		t.Errorf("%v.Check() = %v", x, err)
	}
}

func TestNextOfEachBit(t *testing.T) {
	for _, l := range []cell.Lattice{api.Hex, api.Edge, api.Vertex, 0, -7} {
		for half := range 2 {
			for bit := range 64 {
				born, stay := table.Table{Lattice: l}, table.Table{Lattice: l}
				born.Born[half] = 1 << bit
				stay.Stay[half] = 1 << bit
				for h := range 2 {
					for n := range 64 {
						here := h == half && n == bit
						if born.Next(h, false, n) != here || born.Next(h, true, n) {
							t.Fatalf("%v.Next(%d, .., %d)", born, h, n)
						}
						if stay.Next(h, true, n) != here || stay.Next(h, false, n) {
							t.Fatalf("%v.Next(%d, .., %d)", stay, h, n)
						}
					}
				}
			}
		}
	}
}

func TestNextOfWhatIsNot(t *testing.T) {
	full := [2]uint64{math.MaxUint64, math.MaxUint64}
	x := table.Table{Lattice: api.Hex, Born: full, Stay: full}
	for _, live := range []bool{false, true} {
		for _, half := range []int{-1, 2, 3, 63, math.MinInt, math.MaxInt} {
			for _, n := range []int{0, 1, 5, 63} {
				if x.Next(half, live, n) {
					t.Errorf("Next(%d, %v, %d)", half, live, n)
				}
			}
		}
		for _, n := range []int{-1, -64, 64, 65, 128, math.MinInt, math.MaxInt} {
			for half := range 2 {
				if x.Next(half, live, n) {
					t.Errorf("Next(%d, %v, %d)", half, live, n)
				}
			}
		}
		if x.Next(-1, live, -1) || !x.Next(0, live, 0) || !x.Next(1, live, 63) {
			t.Error("Next at its edges")
		}
	}
}

func TestRing(t *testing.T) {
	for _, x := range classes {
		rings := orbit(t, x.ring)
		if bits.OnesCount64(rings) != x.size {
			t.Fatalf("%v has %d rings", x.class, bits.OnesCount64(rings))
		}
		for ring := range 64 {
			if c := table.Ring(ring); (c == x.class) != (rings>>ring&1 == 1) {
				t.Errorf("Ring(%d) = %v", ring, c)
			}
		}
	}
}

// Of two, how far they stand from each other says the letter; of four, how far the two that are dead.
func TestRingOfTwoAndFour(t *testing.T) {
	for i := range 6 {
		for j := range 6 {
			if i == j {
				continue
			}
			away := (j - i + 6) % 6
			letter := "?ompmo"[away]
			two := 1<<i | 1<<j
			if c := table.Ring(two); c != (table.Class{Count: 2, Letter: letter}) {
				t.Errorf("Ring(%d) = %v", two, c)
			}
			if c := table.Ring(63 - two); c != (table.Class{Count: 4, Letter: letter}) {
				t.Errorf("Ring(%d) = %v", 63-two, c)
			}
		}
	}
}

func TestRingOfMoreBits(t *testing.T) {
	for ring := range 64 {
		want := table.Ring(ring)
		for _, more := range []int{64, 128, 1 << 20, -64, math.MinInt, math.MaxInt - 63} {
			if c := table.Ring(ring + more); c != want {
				t.Errorf("Ring(%d) = %v, not %v", ring+more, c, want)
			}
		}
	}
}

func TestClasses(t *testing.T) {
	var want []table.Class
	for _, x := range classes {
		want = append(want, x.class)
	}
	all := table.Classes()
	if !slices.Equal(all, want) {
		t.Fatalf("Classes() = %v", all)
	}
	clear(all[:cap(all)])
	if again := table.Classes(); !slices.Equal(again, want) {
		t.Errorf("Classes() shares what it answers: %v", again)
	}
}

func TestRings(t *testing.T) {
	var all uint64
	for _, x := range classes {
		rings := table.Rings(x.class)
		if rings != orbit(t, x.ring) {
			t.Errorf("Rings(%v) = %x", x.class, rings)
		}
		if all&rings != 0 {
			t.Errorf("%v has rings of another class", x.class)
		}
		all |= rings
	}
	if all != math.MaxUint64 {
		t.Errorf("rings without a class: %x", ^all)
	}
}

func TestRingsOfNoClass(t *testing.T) {
	for _, c := range none {
		if rings := table.Rings(c); rings != 0 {
			t.Errorf("Rings(%v) = %x", c, rings)
		}
	}
	for count := -2; count < 10; count++ {
		for letter := range 256 {
			c := table.Class{Count: count, Letter: byte(letter)}
			there := slices.Contains(table.Classes(), c)
			if rings := table.Rings(c); (rings != 0) != there {
				t.Errorf("Rings(%v) = %x", c, rings)
			}
		}
	}
}

func TestRingsTurnedAndMirroredHaveOneClass(t *testing.T) {
	for ring := range 64 {
		want := table.Ring(ring)
		if want.Count != bits.OnesCount(uint(ring)) || !slices.Contains(table.Classes(), want) {
			t.Errorf("Ring(%d) = %v", ring, want)
		}
		for o := range axis.Operator(api.Operators) {
			other := brought(t, o, ring)
			if c := table.Ring(other); c != want {
				t.Errorf("Ring(%d) = %v, but of %d, brought by %d, it is %v", other, c, ring, o, want)
			}
		}
	}
}
