package site_test

import (
	"maps"
	"math"
	"math/rand"
	"slices"
	"testing"

	"honeycomb/api"
	"honeycomb/axis"
	"honeycomb/cell"
	"honeycomb/set"
	"honeycomb/site"
)

// The calls have just these signatures.
var (
	_ func(site.Leaf, int, int) int              = site.Leaf.State
	_ func(site.Leaf, int, int, int) site.Leaf   = site.Leaf.Put
	_ func(site.Leaf) int                        = site.Leaf.Count
	_ func(site.Leaf, axis.Point) []cell.Cell    = site.Leaf.Cells
	_ func(axis.Point) axis.Point                = site.Low
	_ func(site.Leaf, cell.Cell, bool) site.Leaf = site.Leaf.With
	_ func(set.Set) map[axis.Point]site.Leaf     = site.Leaves
	_ [site.Side]struct{}                        = [4]struct{}{}
	_ uint32                                     = uint32(site.Leaf(math.MaxUint32))
	_ map[site.Leaf]struct{}                     = nil
)

const (
	far  = api.MaxCoord
	full = site.Leaf(math.MaxUint32)
)

// outside are numbers that no point of a leaf is above its least one.
var outside = []int{-1, -2, -4, -16, 4, 5, 7, 8, 15, 16, 1 << 31, 1 << 32, 1 << 33, 1 << 61, 1 << 62, -1 << 32, -1 << 62, math.MaxInt, math.MinInt}

func at(a, b int64, half int) cell.Cell {
	return cell.Cell{At: axis.Point{A: a, B: b}, Half: half}
}

// bit is the number of a cell's bit, by the chapter's words.
func bit(a, b, half int) int {
	return 2*(4*b+a) + half
}

// lives: is a cell's bit 1?
func lives(f site.Leaf, a, b, half int) bool {
	return uint64(f)/uint64(math.Pow(2, float64(bit(a, b, half))))%2 == 1
}

// anyLeaves are some without cells, full, with one cell each, and of any bits, few of them and many.
func anyLeaves(r *rand.Rand) []site.Leaf {
	leaves := []site.Leaf{0, full, 0x55555555, 0xaaaaaaaa}
	for i := range 32 {
		leaves = append(leaves, 1<<i, full^1<<i)
	}
	for range 50 {
		f := site.Leaf(r.Uint32())
		leaves = append(leaves, f, f&site.Leaf(r.Uint32())&site.Leaf(r.Uint32()), f|site.Leaf(r.Uint32())|site.Leaf(r.Uint32()))
	}
	return leaves
}

// points calls see with each of the points of a leaf.
func points(see func(a, b int)) {
	for b := range 4 {
		for a := range 4 {
			see(a, b)
		}
	}
}

func TestState(t *testing.T) {
	for _, f := range anyLeaves(rand.New(rand.NewSource(1))) {
		points(func(a, b int) {
			want := 0
			if lives(f, a, b, 0) {
				want++
			}
			if lives(f, a, b, 1) {
				want += 2
			}
			if got := f.State(a, b); got != want {
				t.Errorf("%x.State(%d, %d) = %d, not %d", f, a, b, got, want)
			}
		})
	}
}

// Each bit by itself is one state of one point.
func TestStateOfOneBit(t *testing.T) {
	for i := range 32 {
		f := site.Leaf(1) << i
		points(func(a, b int) {
			want := 0
			if i/2 == 4*b+a {
				want = 1 + i%2
			}
			if got := f.State(a, b); got != want {
				t.Errorf("%x.State(%d, %d) = %d, not %d", f, a, b, got, want)
			}
		})
	}
}

func TestStateAndPutOutside(t *testing.T) {
	for _, f := range []site.Leaf{0, full, 0x1234abcd} {
		for _, out := range outside {
			for _, near := range append([]int{0, 1, 2, 3}, outside...) {
				if n, m := f.State(out, near), f.State(near, out); n != 0 || m != 0 {
					t.Errorf("%x.State(%d, %d) = %d, the other way round %d", f, out, near, n, m)
				}
				for _, state := range []int{0, 1, 2, 3, 7, -1} {
					if g, h := f.Put(out, near, state), f.Put(near, out, state); g != f || h != f {
						t.Errorf("%x.Put(%d, %d, %d) = %x, the other way round %x", f, out, near, state, g, h)
					}
				}
			}
		}
	}
}

func TestPut(t *testing.T) {
	if f := site.Leaf(0).Put(0, 0, 1).Put(3, 3, 2).Put(1, 2, 3); f != 1|2<<30|3<<18 {
		t.Errorf("Put = %x", f)
	}
	// What the lowest two bits of a state are, also if there are others, and of numbers below 0.
	states := map[int]int{0: 0, 1: 1, 2: 2, 3: 3, 4: 0, 5: 1, 6: 2, 7: 3, 8: 0, 1<<32 + 2: 2, math.MaxInt: 3, math.MinInt: 0, math.MinInt + 1: 1, -1: 3, -2: 2, -3: 1, -4: 0, -5: 3}
	for _, f := range anyLeaves(rand.New(rand.NewSource(2))) {
		points(func(a, b int) {
			for state, want := range states {
				g := f.Put(a, b, state)
				points(func(c, d int) {
					if c == a && d == b {
						if g.State(c, d) != want {
							t.Errorf("%x.Put(%d, %d, %d) has %d there", f, a, b, state, g.State(c, d))
						}
					} else if g.State(c, d) != f.State(c, d) {
						t.Errorf("%x.Put(%d, %d, %d) has %d at (%d, %d)", f, a, b, state, g.State(c, d), c, d)
					}
				})
			}
		})
	}
}

func TestCount(t *testing.T) {
	if site.Leaf(0).Count() != 0 || full.Count() != 32 {
		t.Errorf("Count of none is %d, of all %d", site.Leaf(0).Count(), full.Count())
	}
	for _, f := range anyLeaves(rand.New(rand.NewSource(3))) {
		want := 0
		for i := range 32 {
			want += int(f >> i & 1)
		}
		if n := f.Count(); n != want {
			t.Errorf("%x.Count() = %d, not %d", f, n, want)
		}
	}
}

func TestCells(t *testing.T) {
	f := site.Leaf(1 | 2<<30 | 3<<18)
	want := []cell.Cell{at(-4, 8, 0), at(-3, 10, 0), at(-3, 10, 1), at(-1, 11, 1)}
	if l := f.Cells(axis.Point{A: -4, B: 8}); !slices.Equal(l, want) {
		t.Errorf("Cells = %v", l)
	}
	lows := []axis.Point{{}, {A: -4, B: 8}, {A: 1, B: -3}, {A: -7, B: -1}, {A: far, B: -far}, {A: -far, B: far - 4}, {A: 1<<62 - 3, B: -1 << 62}, {A: -1 << 62, B: 1<<62 - 3}}
	for _, f := range anyLeaves(rand.New(rand.NewSource(4))) {
		for _, low := range lows {
			var want []cell.Cell
			points(func(a, b int) {
				for half := range 2 {
					if lives(f, a, b, half) {
						want = append(want, at(low.A+int64(a), low.B+int64(b), half))
					}
				}
			})
			l := f.Cells(low)
			if !slices.Equal(l, want) || !slices.IsSortedFunc(l, cell.Compare) {
				t.Fatalf("%x.Cells(%v) = %v, not %v", f, low, l, want)
			}
		}
	}
}

func TestCellsAreNewMemory(t *testing.T) {
	first := full.Cells(axis.Point{})
	second := full.Cells(axis.Point{})
	clear(first[:cap(first)])
	if len(second) != 32 || second[31] != at(3, 3, 1) {
		t.Errorf("%v changed with another answer", second)
	}
}

func TestLow(t *testing.T) {
	for _, x := range []struct{ of, want int64 }{
		{0, 0}, {1, 0}, {3, 0}, {4, 4}, {5, 4}, {7, 4}, {8, 8},
		{-1, -4}, {-3, -4}, {-4, -4}, {-5, -8}, {-7, -8}, {-8, -8}, {-9, -12},
		{far, far}, {far - 1, far - 4}, {far + 1, far}, {far + 4, far + 4},
		{-far, -far}, {-far - 1, -far - 4}, {-far + 1, -far}, {-far + 3, -far},
		{1<<32 + 3, 1 << 32}, {-1<<32 - 1, -1<<32 - 4},
		{math.MaxInt64, math.MaxInt64 - 3}, {math.MinInt64, math.MinInt64}, {math.MinInt64 + 3, math.MinInt64},
	} {
		for _, y := range []struct{ of, want int64 }{{0, 0}, {5, 4}, {-1, -4}, {x.of, x.want}} {
			if p := site.Low(axis.Point{A: x.of, B: y.of}); p != (axis.Point{A: x.want, B: y.want}) {
				t.Errorf("Low of (%d, %d) = %v", x.of, y.of, p)
			}
			if p := site.Low(axis.Point{A: y.of, B: x.of}); p != (axis.Point{A: y.want, B: x.want}) {
				t.Errorf("Low of (%d, %d) = %v", y.of, x.of, p)
			}
		}
	}
}

// The greatest multiples of 4 that aren't above: each is one, not above, and 4 more is above.
func TestLowOfMany(t *testing.T) {
	for a := int64(-50); a <= 50; a++ {
		for b := int64(-50); b <= 50; b++ {
			for _, by := range []int64{0, 1 << 40, -1 << 40, 1<<61 + 2} {
				of := axis.Point{A: a + by, B: b - by}
				p := site.Low(of)
				if p.A%4 != 0 || p.B%4 != 0 || p.A > of.A || p.B > of.B || p.A+4 <= of.A || p.B+4 <= of.B {
					t.Fatalf("Low of %v = %v", of, p)
				}
			}
		}
	}
}

// The leaf of any point's cell: each of the 16 points, in leaves on both sides of 0 and far away.
func TestWith(t *testing.T) {
	lows := []axis.Point{{}, {A: -4, B: 8}, {A: 4, B: -4}, {A: -8, B: -12}, {A: far, B: -far}, {A: -1 << 62, B: 1 << 61}, {A: math.MinInt64, B: math.MaxInt64 - 3}}
	for _, f := range anyLeaves(rand.New(rand.NewSource(5))) {
		for _, low := range lows {
			points(func(a, b int) {
				for half := range 2 {
					c := at(low.A+int64(a), low.B+int64(b), half)
					one := site.Leaf(1) << bit(a, b, half)
					if g := f.With(c, true); g != f|one {
						t.Errorf("%x.With(%v, true) = %x", f, c, g)
					}
					if g := f.With(c, false); g != f&^one {
						t.Errorf("%x.With(%v, false) = %x", f, c, g)
					}
				}
			})
		}
	}
}

func TestLeavesOfNoCells(t *testing.T) {
	for _, s := range []set.Set{nil, {}, set.Of()} {
		if m := site.Leaves(s); len(m) != 0 {
			t.Errorf("Leaves of none = %v", m)
		}
	}
}

func TestLeavesExamples(t *testing.T) {
	for _, x := range []struct {
		s    set.Set
		want map[axis.Point]site.Leaf
	}{
		{set.Of(at(0, 0, 0)), map[axis.Point]site.Leaf{{}: 1}},
		{set.Of(at(3, 3, 1)), map[axis.Point]site.Leaf{{}: 1 << 31}},
		{set.Of(at(0, 0, 0), at(0, 0, 1), at(2, 1, 0)), map[axis.Point]site.Leaf{{}: 3 | 1<<12}},
		{set.Of(at(0, 0, 1), at(-1, 0, 0), at(1, 0, 0)), map[axis.Point]site.Leaf{{}: 2 | 4, {A: -4}: 1 << 6}},
		{set.Of(at(0, 0, 0), at(-1, 0, 0), at(0, -1, 0), at(-1, -1, 0)), map[axis.Point]site.Leaf{{}: 1, {A: -4}: 1 << 6, {B: -4}: 1 << 24, {A: -4, B: -4}: 1 << 30}},
		{set.Of(at(3, 0, 0), at(4, 0, 0)), map[axis.Point]site.Leaf{{}: 1 << 6, {A: 4}: 1}},
		{set.Of(at(-4, -4, 1), at(-5, -5, 1)), map[axis.Point]site.Leaf{{A: -4, B: -4}: 2, {A: -8, B: -8}: 1 << 31}},
		{set.Of(at(far, far, 1), at(-far, -far, 0)), map[axis.Point]site.Leaf{{A: far, B: far}: 2, {A: -far, B: -far}: 1}},
		{set.Of(at(1<<62-1, -1<<62, 0)), map[axis.Point]site.Leaf{{A: 1<<62 - 4, B: -1 << 62}: 1 << 6}},
	} {
		if m := site.Leaves(x.s); !maps.Equal(m, x.want) {
			t.Errorf("Leaves(%v) = %v", x.s, m)
		}
	}
}

// some is a set of cells at points at most so far away from another one on either axis.
func some(r *rand.Rand, halves, n int, from axis.Point, away int64) set.Set {
	cells := make([]cell.Cell, n)
	for i := range cells {
		cells[i] = at(from.A+r.Int63n(2*away+1)-away, from.B+r.Int63n(2*away+1)-away, r.Intn(halves))
	}
	return set.Of(cells...)
}

// There and back: no leaf is without cells, each lies where it should, and all together have the set's cells, each once.
func TestThereAndBack(t *testing.T) {
	r := rand.New(rand.NewSource(6))
	for _, from := range []axis.Point{{}, {A: 3, B: -5}, {A: far, B: -far}, {A: -1 << 61, B: 1 << 61}} {
		for _, away := range []int64{0, 1, 3, 9, 100, 1 << 39} {
			for _, n := range []int{1, 2, 30, 300} {
				for halves := range 2 {
					s := some(r, halves+1, n, from, away)
					kept := slices.Clone(s)
					var back []cell.Cell
					for low, f := range site.Leaves(s) {
						if f == 0 || site.Low(low) != low {
							t.Errorf("Leaves(%v) has %x at %v", s, f, low)
						}
						for _, c := range f.Cells(low) {
							if site.Low(c.At) != low {
								t.Errorf("%v is in the leaf at %v", c, low)
							}
							back = append(back, c)
						}
					}
					if len(back) != len(s) || !slices.Equal(set.Of(back...), s) || !slices.Equal(s, kept) {
						t.Fatalf("leaves of %v have %v", s, back)
					}
				}
			}
		}
	}
}

// Back and there: the cells of any leaf, at any place for one, are in that leaf alone.
func TestBackAndThere(t *testing.T) {
	for _, f := range anyLeaves(rand.New(rand.NewSource(7))) {
		for _, low := range []axis.Point{{}, {A: -4, B: 4}, {A: -far, B: far}} {
			m := site.Leaves(f.Cells(low))
			if f == 0 && len(m) != 0 || f != 0 && (len(m) != 1 || m[low] != f) {
				t.Errorf("Leaves of the cells of %x at %v = %v", f, low, m)
			}
		}
	}
}

// Each answer is a table of its own, the same each time.
func TestLeavesAreNewMemory(t *testing.T) {
	s := some(rand.New(rand.NewSource(8)), 2, 500, axis.Point{}, 40)
	first := site.Leaves(s)
	kept := maps.Clone(first)
	clear(first)
	first[axis.Point{}] = 7
	for range 5 {
		if m := site.Leaves(s); !maps.Equal(m, kept) {
			t.Fatalf("Leaves(%v) isn't the same each time", s)
		}
	}
}
