package bound_test

import (
	"math"
	"math/rand"
	"slices"
	"testing"

	"honeycomb/axis"
	"honeycomb/bound"
	"honeycomb/set"
)

// The calls have just these signatures.
var (
	_ func(set.Box) int64             = bound.Extent
	_ func(uint64, int) uint64        = bound.Cells
	_ func(int64, int) int            = bound.Level
	_ func(uint64, int, int64) uint64 = bound.Nodes
)

// Rising numbers of each kind, around all those at which something comes to an end.
var (
	populations = []uint64{0, 1, 2, 3, 10, 50, 65535, 65536, 1 << 20, 1<<31 - 1, 1 << 40, 1 << 59, 1<<60 - 1, 1 << 60, 1<<61 - 1, 1 << 61, 1<<61 + 1, 1<<62 - 1, 1 << 62, 1<<62 + 1, 1 << 63, 1<<63 + 1, math.MaxUint64 - 1, math.MaxUint64}
	generations = []int{math.MinInt, -1 << 40, -2, -1, 0, 1, 2, 3, 4, 7, 100, 1023, 1024, 1<<20 - 1, 1 << 20, 1<<20 + 1, 1 << 32, 1<<62 + 1, math.MaxInt}
	extents     = []int64{math.MinInt64, -1 << 61, -1 << 40, -4, -1, 0, 1, 2, 3, 4, 5, 7, 8, 15, 16, 1000, 1<<40 - 1<<20, 1<<40 - 1, 1 << 40, 1<<40 + 1, 1<<41 - 1<<20 - 1, 1<<41 - 1<<20, 1<<41 - 1, 1 << 41, 1<<42 - 1, 1 << 42, 1<<43 - 1, 1 << 43, 1<<44 + 1, 1 << 60, 1<<61 - 1, 1 << 61, 1<<61 + 1, 1 << 62, math.MaxInt64 - 1, math.MaxInt64}
)

func TestMost(t *testing.T) {
	if uint64(bound.Most) != most || int64(bound.Most) != 1<<62 {
		t.Error(uint64(bound.Most))
	}
}

func TestExamples(t *testing.T) {
	if n := bound.Cells(1, 1); n != 18 {
		t.Errorf("Cells(1, 1) = %d", n)
	}
	if n := bound.Level(0, 0); n != 5 {
		t.Errorf("Level(0, 0) = %d", n)
	}
	if n := bound.Nodes(0, 0, 0); n != 12000 {
		t.Errorf("Nodes(0, 0, 0) = %d", n)
	}
}

// box is one with these numbers.
func box(n [4]int64) set.Box {
	return set.Box{Low: axis.Point{A: n[0], B: n[1]}, High: axis.Point{A: n[2], B: n[3]}}
}

// Whichever of the four numbers is the farthest one, on either side of 0.
func TestExtent(t *testing.T) {
	for i := range 4 {
		for _, x := range []struct{ n, extent int64 }{
			{0, 3}, {1, 3}, {-3, 3}, {4, 4}, {-4, 4}, {1 << 40, 1 << 40}, {-1 << 40, 1 << 40},
			{1<<62 - 1, 1<<62 - 1}, {1 - 1<<62, 1<<62 - 1}, {1 << 62, 1 << 62}, {-1 << 62, 1 << 62},
			{1<<62 + 1, 1 << 62}, {-1<<62 - 1, 1 << 62}, {math.MaxInt64, 1 << 62}, {math.MinInt64 + 1, 1 << 62}, {math.MinInt64, 1 << 62},
		} {
			n := [4]int64{-2, 1, 3, -3}
			n[i] = x.n
			n[(i+1)%4] = -3
			if far := bound.Extent(box(n)); far != x.extent {
				t.Errorf("Extent of %v = %d, not %d", n, far, x.extent)
			}
		}
	}
	if far := bound.Extent(set.Box{}); far != 0 {
		t.Errorf("Extent of zeros = %d", far)
	}
}

func TestExtentOfAnyBox(t *testing.T) {
	r := rand.New(rand.NewSource(1))
	for range 10000 {
		var n [4]int64
		far := uint64(0)
		for i := range n {
			n[i] = int64(r.Uint64()) >> r.Intn(64)
			without := uint64(n[i])
			if n[i] < 0 {
				without = -without
			}
			far = max(far, without)
		}
		if got := bound.Extent(box(n)); uint64(got) != min(far, most) {
			t.Fatalf("Extent of %v = %d, not %d", n, got, min(far, most))
		}
	}
}

// The box of a set: none of its cells is further from 0, and one is as far.
func TestExtentOfSets(t *testing.T) {
	r := rand.New(rand.NewSource(2))
	for range 1000 {
		s := some(r, 2, 1+r.Intn(5), 1+r.Int63n(1<<r.Intn(40)))
		b, _ := s.Box()
		if far := bound.Extent(b); far != extent(s) {
			t.Fatalf("Extent of %v = %d, not %d", s, far, extent(s))
		}
	}
}

func TestCells(t *testing.T) {
	for _, p := range populations {
		for _, n := range generations {
			if c, want := bound.Cells(p, n), told(cells(p, n)); c != want {
				t.Errorf("Cells(%d, %d) = %d, not %d", p, n, c, want)
			}
		}
	}
}

func TestLevel(t *testing.T) {
	for _, x := range extents {
		for _, n := range generations {
			if m, want := bound.Level(x, n), level(x, n); m != want {
				t.Errorf("Level(%d, %d) = %d, not %d", x, n, m, want)
			}
		}
	}
	// At each level the last extent that it is enough for, and the next one.
	for m := 3; m <= 41; m++ {
		half := int64(1) << (m - 1)
		for n := range min(int(half), 5) {
			if got := bound.Level(half-1-int64(n), n); got != m+2 {
				t.Errorf("Level(%d, %d) = %d, not %d", half-1-int64(n), n, got, m+2)
			}
			if got := bound.Level(half-int64(n), n); got != m+3 {
				t.Errorf("Level(%d, %d) = %d, not %d", half-int64(n), n, got, m+3)
			}
		}
	}
}

func TestNodes(t *testing.T) {
	for _, p := range populations {
		for _, n := range generations {
			for _, x := range extents {
				if c, want := bound.Nodes(p, n, x), told(nodes(p, n, x)); c != want {
					t.Errorf("Nodes(%d, %d, %d) = %d, not %d", p, n, x, c, want)
				}
			}
		}
	}
}

func TestAnyNumbers(t *testing.T) {
	r := rand.New(rand.NewSource(3))
	for range 20000 {
		p, n, x := r.Uint64()>>r.Intn(64), int(r.Uint64())>>r.Intn(64), int64(r.Uint64())>>r.Intn(64)
		if c, want := bound.Cells(p, n), told(cells(p, n)); c != want {
			t.Errorf("Cells(%d, %d) = %d, not %d", p, n, c, want)
		}
		if m, want := bound.Level(x, n), level(x, n); m != want {
			t.Errorf("Level(%d, %d) = %d, not %d", x, n, m, want)
		}
		if c, want := bound.Nodes(p, n, x), told(nodes(p, n, x)); c != want {
			t.Errorf("Nodes(%d, %d, %d) = %d, not %d", p, n, x, c, want)
		}
	}
}

// A product just at the end, and just above it.
func TestAroundMost(t *testing.T) {
	for _, x := range []struct {
		p    uint64
		n    int
		told uint64
	}{
		{1 << 61, 0, most}, {1<<61 - 1, 0, most - 2}, {1<<61 + 1, 0, most}, {1 << 62, 0, most}, {1 << 63, 0, most}, {math.MaxUint64, 0, most}, {math.MaxUint64, 1 << 20, most},
		{most / 18, 1, most / 18 * 18}, {most/18 + 1, 1, most}, {1 << 18, 1 << 20, 2 * (1 << 18) * (1<<21 + 1) * (1<<21 + 1)}, {1 << 19, 1 << 20, most},
	} {
		if c := bound.Cells(x.p, x.n); c != x.told {
			t.Errorf("Cells(%d, %d) = %d, not %d", x.p, x.n, c, x.told)
		}
	}
	// By no generation there are 4 times 2 times p times 5 times 21, and p times 5, and 12000.
	p := (most - 12000) / 845
	if c := bound.Nodes(p, 0, 0); c != 845*p+12000 {
		t.Errorf("Nodes(%d, 0, 0) = %d", p, c)
	}
	if c := bound.Nodes(p+1, 0, 0); c != most {
		t.Errorf("Nodes(%d, 0, 0) = %d", p+1, c)
	}
	if c := bound.Nodes(0, math.MaxInt, math.MaxInt64); c != 12000 {
		t.Errorf("Nodes of no cells = %d", c)
	}
}

// More of anything never lessens a bound.
func TestMoreIsNeverLess(t *testing.T) {
	var all [][]uint64
	for _, n := range generations {
		var c, m []uint64
		for _, p := range populations {
			c = append(c, bound.Cells(p, n))
		}
		for _, x := range extents {
			m = append(m, uint64(bound.Level(x, n)))
		}
		all = append(all, c, m)
	}
	for _, p := range populations {
		var c []uint64
		for _, n := range generations {
			c = append(c, bound.Cells(p, n))
		}
		all = append(all, c)
	}
	for _, x := range extents {
		var m []uint64
		for _, n := range generations {
			m = append(m, uint64(bound.Level(x, n)))
		}
		all = append(all, m)
	}
	for _, l := range append(all, nodesByEach()...) {
		if !slices.IsSorted(l) {
			t.Errorf("%v aren't rising", l)
		}
	}
}

// nodesByEach are Nodes, where two of its numbers stay as they are, and the third one is more and more.
func nodesByEach() [][]uint64 {
	var all [][]uint64
	for _, n := range generations {
		for _, x := range extents {
			var l []uint64
			for _, p := range populations {
				l = append(l, bound.Nodes(p, n, x))
			}
			all = append(all, l)
		}
		for _, p := range populations {
			var l []uint64
			for _, x := range extents {
				l = append(l, bound.Nodes(p, n, x))
			}
			all = append(all, l)
		}
	}
	for _, p := range populations {
		for _, x := range extents {
			var l []uint64
			for _, n := range generations {
				l = append(l, bound.Nodes(p, n, x))
			}
			all = append(all, l)
		}
	}
	return all
}
