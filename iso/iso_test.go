package iso_test

import (
	"math"
	"math/rand"
	"slices"
	"testing"

	"honeycomb/api"
	"honeycomb/axis"
	"honeycomb/cell"
	"honeycomb/flat"
	"honeycomb/iso"
	"honeycomb/rule"
	"honeycomb/set"
	"honeycomb/table"
)

// The calls have just these signatures.
var (
	_ func(table.Table) (iso.Witness, bool, error) = iso.Check
	_ func(table.Table, axis.Operator) bool        = iso.Keeps
	_ struct {
		Live     set.Set
		Operator axis.Operator
	} = iso.Witness{}
)

const (
	mostCells = 40 // of a witness
	mostAway  = 8  // from 0, of its coordinates
)

var (
	lattices  = []cell.Lattice{api.Hex, api.Edge, api.Vertex}
	operators = []axis.Operator{0, 1, 2, 3, 4, 5, 6, 7, 8, 9, 10, 11}
	noOnes    = []axis.Operator{-1, -2, -6, -12, 12, 13, 18, 24, math.MinInt, math.MaxInt}
)

// keepHalves are the operators that leave a triangle's Half, as any table of triangles needs it.
var keepHalves = []axis.Operator{0, 2, 4, 6, 8, 10}

func parse(t *testing.T, text string) table.Table {
	t.Helper()
	x, err := rule.Parse(text)
	if err != nil {
		t.Fatal(err)
	}
	return x
}

// kept are the operators that a table keeps.
func kept(x table.Table) []axis.Operator {
	var all []axis.Operator
	for _, o := range operators {
		if iso.Keeps(x, o) {
			all = append(all, o)
		}
	}
	return all
}

// commutes: is the next generation of what is brought elsewhere where the next generation is brought?
func commutes(t *testing.T, x table.Table, s set.Set, o axis.Operator) bool {
	t.Helper()
	must := func(s set.Set, err error) set.Set {
		t.Helper()
		if err != nil {
			t.Fatal(err)
		}
		return s
	}
	ahead := must(flat.Step(x, must(s.Turn(x.Lattice, o))))
	behind := must(must(flat.Step(x, s)).Turn(x.Lattice, o))
	return ahead.Same(behind)
}

// holdCheck holds what Check answers of a table against what is asked of it.
func holdCheck(t *testing.T, x table.Table, isotropic bool) {
	t.Helper()
	w, ok, err := iso.Check(x)
	if err != nil || ok == isotropic {
		t.Fatalf("Check(%v) = %v, %v, %v", x, w, ok, err)
	}
	if isotropic {
		if len(w.Live) != 0 || w.Operator != 0 {
			t.Fatalf("Check(%v) = %v, %v, %v", x, w, ok, err)
		}
		return
	}
	if len(w.Live) > mostCells || w.Live.Check(x.Lattice) != nil || !w.Operator.Good() {
		t.Fatalf("Check(%v): witness %v", x, w)
	}
	if b, _ := w.Live.Box(); min(b.Low.A, b.Low.B) < -mostAway || max(b.High.A, b.High.B) > mostAway {
		t.Fatalf("Check(%v): witness %v is too far away", x, w)
	}
	if commutes(t, x, w.Live, w.Operator) {
		t.Fatalf("Check(%v): %v is no witness", x, w)
	}
	if iso.Keeps(x, w.Operator) {
		t.Fatalf("%v keeps %d, of which Check has a witness", x, w.Operator)
	}
}

func TestExamples(t *testing.T) {
	for _, x := range []struct {
		rule string
		kept []axis.Operator
	}{
		{"B2/S34H", operators},
		{"B2o/S3mH", operators},
		{"B2omp/SH", operators},
		{"B/SH", operators},
		{"B123456/S0123456H", operators},
		{"B12/S1E", operators},
		{"B1/S2:B1/S2E", operators},
		{"B/SV", operators},
		{"B3ac/S2bV", operators},
		{"B1/S:B2/SE", keepHalves},
		{"B1/S:B1/S0E", keepHalves},
		{"B/S3:B/SE", keepHalves},
		{"B4/S3:B4/S2V", keepHalves},
		{"B/S:B/ScV", keepHalves},
		{"B/S:Bc/SV", keepHalves},
		{"G00000000000000000000000000000001", operators},
		{"G00000000000000000000000000000000", operators},
		{"Gfffffffffffffffeffffffffffffffff", operators},
		{"G80000000000000000000000000000000", operators},
		{"G00000000000000000000000000200000", []axis.Operator{0, 2, 4, 7, 9, 11}}, // of ring 21 alone, which three mirrors leave
		{"G00000000000000000000000000000800", []axis.Operator{0}},                 // of ring 11 alone, which nothing leaves
		{"G00000000000000020000000000000000", []axis.Operator{0, 11}},             // of the first of the six alone
		{"G00000000000000040000000000000000", []axis.Operator{0, 7}},              // of the second
	} {
		y := parse(t, x.rule)
		if all := kept(y); !slices.Equal(all, x.kept) {
			t.Errorf("%s keeps %v", x.rule, all)
		}
		holdCheck(t, y, len(x.kept) == len(operators))
	}
}

func TestTheWitnessOfTheChapter(t *testing.T) {
	x := parse(t, "B1/S:B2/SE")
	if one := set.Of(cell.Cell{}); commutes(t, x, one, 1) || !commutes(t, x, one, 2) {
		t.Error("one that lives, turned by 60 degrees, isn't a witness, or turned by 120 it is one")
	}
	w, ok, err := iso.Check(x)
	if !ok || err != nil || len(w.Live) != 1 {
		t.Errorf("Check = %v, %v, %v", w, ok, err)
	}
}

func TestTablesThatMayNotBe(t *testing.T) {
	for _, x := range []struct {
		t    table.Table
		code api.Code
	}{
		{table.Table{}, api.ErrLattice},
		{table.Table{Lattice: 4}, api.ErrLattice},
		{table.Table{Lattice: -1, Born: [2]uint64{1, 1}}, api.ErrLattice},
		{table.Table{Lattice: math.MinInt}, api.ErrLattice},
		{table.Table{Lattice: math.MaxInt, Born: [2]uint64{6, 8}}, api.ErrLattice},
		{table.Table{Lattice: api.Hex, Born: [2]uint64{1, 0}}, api.ErrRule},
		{table.Table{Lattice: api.Hex, Born: [2]uint64{3, 0}}, api.ErrRule},
		{table.Table{Lattice: api.Hex, Born: [2]uint64{0, 2}}, api.ErrRule},
		{table.Table{Lattice: api.Hex, Stay: [2]uint64{0, 1 << 63}}, api.ErrRule},
		{table.Table{Lattice: api.Edge, Born: [2]uint64{1, 1}}, api.ErrRule},
		{table.Table{Lattice: api.Edge, Born: [2]uint64{0, 1}}, api.ErrRule},
		{table.Table{Lattice: api.Edge, Born: [2]uint64{16, 16}}, api.ErrRule},
		{table.Table{Lattice: api.Edge, Stay: [2]uint64{0, 16}}, api.ErrRule},
		{table.Table{Lattice: api.Vertex, Born: [2]uint64{1, 0}}, api.ErrRule},
		{table.Table{Lattice: api.Vertex, Born: [2]uint64{1 << 13, 1 << 13}}, api.ErrRule},
		{table.Table{Lattice: api.Vertex, Stay: [2]uint64{1 << 63, 0}}, api.ErrRule},
	} {
		if w, ok, err := iso.Check(x.t); w.Live != nil || w.Operator != 0 || ok || err != error(x.code) {
			t.Errorf("Check(%v) = %v, %v, %v", x.t, w, ok, err)
		}
		for _, o := range slices.Concat(operators, noOnes) {
			if iso.Keeps(x.t, o) {
				t.Errorf("%v, which may not be, keeps %d", x.t, o)
			}
		}
	}
}

func TestOperatorsThatAreNone(t *testing.T) {
	for _, text := range []string{"B/SH", "B2/S34H", "G00000000000000020000000000000000", "B12/S1E", "B1/S:B2/SE", "B4/S3V", "B4/S3:B4/S2V"} {
		for _, o := range noOnes {
			if iso.Keeps(parse(t, text), o) {
				t.Errorf("%s keeps %d", text, o)
			}
		}
	}
}

// All tables of Edge: just those with the same for both halves keep all.
func TestEachTableOfEdge(t *testing.T) {
	for i := range 1 << 14 {
		x := table.Table{Lattice: api.Edge}
		x.Born = [2]uint64{uint64(i) & 7 << 1, uint64(i) >> 3 & 7 << 1}
		x.Stay = [2]uint64{uint64(i) >> 6 & 15, uint64(i) >> 10 & 15}
		want := keepHalves
		if x.Born[0] == x.Born[1] && x.Stay[0] == x.Stay[1] {
			want = operators
		}
		if all := kept(x); !slices.Equal(all, want) {
			t.Fatalf("%v keeps %v", x, all)
		}
		holdCheck(t, x, len(want) == len(operators))
	}
}

// A bit by which the halves differ is found, whichever it is, whatever the others are.
func TestEachBitOfTriangles(t *testing.T) {
	r := rand.New(rand.NewSource(15))
	for _, l := range lattices[1:] {
		for range 20 {
			x := anyTable(r, l)
			x.Born[1], x.Stay[1] = x.Born[0], x.Stay[0]
			holdCheck(t, x, true)
			for n := 0; bitsOf(l)>>n&1 == 1; n++ {
				y := x
				y.Stay[r.Intn(2)] ^= 1 << n
				holdCheck(t, y, false)
				if n == 0 {
					continue
				}
				y = x
				y.Born[r.Intn(2)] ^= 1 << n
				holdCheck(t, y, false)
				if all := kept(y); !slices.Equal(all, keepHalves) {
					t.Fatalf("%v keeps %v", y, all)
				}
			}
		}
	}
}

// A ring that is alone of its class is found; the classes of but one ring are nobody's.
func TestEachBitOfHexagons(t *testing.T) {
	for ring := range 64 {
		alone := table.Rings(table.Ring(ring)) == 1<<ring
		x := table.Table{Lattice: api.Hex, Stay: [2]uint64{1 << ring, 0}}
		holdCheck(t, x, alone)
		x.Stay[0] = ^x.Stay[0]
		holdCheck(t, x, alone)
		if ring == 0 {
			continue
		}
		x = table.Table{Lattice: api.Hex, Born: [2]uint64{1 << ring, 0}}
		holdCheck(t, x, alone)
		x.Born[0] = ^x.Born[0] &^ 1
		holdCheck(t, x, alone)
	}
}

func TestTablesOfWholeClassesKeepAll(t *testing.T) {
	classes := table.Classes()
	r := rand.New(rand.NewSource(16))
	for range 300 {
		x := table.Table{Lattice: api.Hex}
		for _, c := range classes {
			if c.Count > 0 && r.Intn(2) == 0 {
				x.Born[0] |= table.Rings(c)
			}
			if r.Intn(2) == 0 {
				x.Stay[0] |= table.Rings(c)
			}
		}
		if !rule.Total(x.Born[0]) || !rule.Total(x.Stay[0]) {
			t.Fatalf("%v isn't of whole classes", x)
		}
		if all := kept(x); !slices.Equal(all, operators) {
			t.Fatalf("%v keeps %v", x, all)
		}
		holdCheck(t, x, true)
		x.Stay[0] ^= 1 << r.Intn(64)
		holdCheck(t, x, rule.Total(x.Stay[0]))
	}
}

// Where Check has no witness, nothing is one.
func TestEachSetCommutes(t *testing.T) {
	r := rand.New(rand.NewSource(17))
	for _, x := range []string{"B2/S34H", "B2o/S3mH", "B12/S0345H", "B1/SE", "B12/S1E", "B4/S3V", "B2357/S034bV"} {
		y := parse(t, x)
		holdCheck(t, y, true)
		for range 30 {
			s := some(r, y.Lattice)
			for _, o := range operators {
				if !commutes(t, y, s, o) {
					t.Fatalf("%s: %v is a witness for %d", x, s, o)
				}
			}
		}
	}
}

// Of any table an operator is kept just if no set of many speaks against it.
func TestKeepsAgainstSets(t *testing.T) {
	r := rand.New(rand.NewSource(18))
	groups := groups()
	for _, l := range lattices {
		for i := range len(groups) {
			x := anyTable(r, l)
			if l == api.Hex {
				x = evened(t, x, groups[i])
			}
			crowds := []set.Set{nil}
			for range 25 {
				crowds = append(crowds, some(r, l))
			}
			for _, o := range operators {
				all := !slices.ContainsFunc(crowds, func(s set.Set) bool { return !commutes(t, x, s, o) })
				if iso.Keeps(x, o) != all {
					t.Fatalf("%v keeps %d: %v, though of the sets that were tried: %v", x, o, !all, all)
				}
			}
		}
	}
}

func TestWhatIsKeptIsAGroup(t *testing.T) {
	r := rand.New(rand.NewSource(19))
	groups := groups()
	for _, l := range lattices {
		for i := range 400 {
			x := anyTable(r, l)
			if l == api.Hex {
				x = evened(t, x, groups[i%len(groups)])
			}
			if all := kept(x); !isGroup(all) {
				t.Fatalf("%v keeps %v", x, all)
			}
		}
	}
}

// Each of the groups is kept by some table of Hex that keeps nothing else, and Check has a witness of each but the greatest.
func TestEachGroupIsKeptByATable(t *testing.T) {
	r := rand.New(rand.NewSource(20))
	for _, g := range groups() {
		exact := 0
		for range 40 {
			x := evened(t, anyTable(r, api.Hex), g)
			all := kept(x)
			for _, o := range g {
				if !slices.Contains(all, o) {
					t.Fatalf("%v keeps %v, not all of %v", x, all, g)
				}
			}
			if slices.Equal(all, g) {
				exact++
			}
			holdCheck(t, x, len(all) == len(operators))
		}
		if exact == 0 {
			t.Errorf("no table keeps just %v", g)
		}
	}
}

func TestAnswersAreAlikeAndNobodyElses(t *testing.T) {
	for _, text := range []string{"B1/S:B2/SE", "B4/S3:B4/S2V", "B/S:B/ScV", "G00000000000000000000000000200000"} {
		x := parse(t, text)
		first, _, _ := iso.Check(x)
		live := slices.Clone(first.Live)
		clear(first.Live[:cap(first.Live)])
		if again, ok, err := iso.Check(x); !ok || err != nil || again.Operator != first.Operator || !slices.Equal(again.Live, live) {
			t.Errorf("%s: %v, %v, %v", text, again, ok, err)
		}
	}
}
