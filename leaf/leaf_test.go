package leaf_test

import (
	"math"
	"math/rand"
	"testing"

	"honeycomb/api"
	"honeycomb/axis"
	"honeycomb/block"
	"honeycomb/cell"
	"honeycomb/flat"
	"honeycomb/leaf"
	"honeycomb/rule"
	"honeycomb/set"
	"honeycomb/site"
)

// The calls have just these signatures.
var (
	_ func(*block.Kernel, int) *leaf.Memo           = leaf.New
	_ func(*leaf.Memo) int                          = (*leaf.Memo).Made
	_ func(*leaf.Memo) int                          = (*leaf.Memo).Kept
	_ func(*leaf.Memo)                              = (*leaf.Memo).Clear
	_ func(*leaf.Memo, [4]site.Leaf, int) site.Leaf = (*leaf.Memo).Result
)

const full = site.Leaf(math.MaxUint32)

// rules are some of each lattice, and one by which nothing lives on.
var rules = []string{"B2/S34H", "B2o/S2p3H", "B1/S012H", "B2/S12E", "B1/S:B2/S0E", "B45/S3456V", "B3/S:B/S123V", "B/SH", "B/SE"}

var any4 = [4]site.Leaf{0x11044010, 0x40010440, 0x10400104, 0x00411001}

func kernel(t *testing.T, text string) *block.Kernel {
	t.Helper()
	x, err := rule.Parse(text)
	if err != nil {
		t.Fatal(err)
	}
	k, err := block.New(x)
	if err != nil {
		t.Fatal(err)
	}
	return k
}

// counts asks both numbers of a memo.
func counts(t *testing.T, m *leaf.Memo, made, kept int) {
	t.Helper()
	if m.Made() != made || m.Kept() != kept {
		t.Errorf("made %d, kept %d; not %d, %d", m.Made(), m.Kept(), made, kept)
	}
}

func TestNew(t *testing.T) {
	k := kernel(t, "B2/S34H")
	for _, most := range []int{math.MinInt, -1, 0, 1, 2, 1 << 14, 1 << 62, math.MaxInt} {
		counts(t, leaf.New(k, most), 0, 0)
	}
}

// Example 1 of the chapter, and nothing is made or kept of it.
func TestResultOfNoGenerations(t *testing.T) {
	k := kernel(t, "B2/S34H")
	for _, most := range []int{-1, 0, 1, 9} {
		m := leaf.New(k, most)
		for _, n := range []int{0, -1, -2, -3, math.MinInt, math.MinInt + 1} {
			for _, q := range [][4]site.Leaf{any4, {full, full, full, full}, {1}, {}, {full, 0, 0, 0}, {0, full, 0, 0}, {0, 0, full, 0}, {0, 0, 0, full}} {
				if f, want := m.Result(q, n), block.Of(q).Middle(); f != want {
					t.Errorf("Result(%x, %d) = %x, not %x", q, n, f, want)
				}
			}
		}
		counts(t, m, 0, 0)
	}
}

// The points of the middle come of all four quarters: each by its own corner.
func TestMiddleByCorners(t *testing.T) {
	m := leaf.New(kernel(t, "B2/S34H"), 9)
	for _, x := range []struct {
		q    [4]site.Leaf
		want site.Leaf
	}{
		{[4]site.Leaf{site.Leaf(0).Put(2, 2, 3)}, site.Leaf(0).Put(0, 0, 3)},
		{[4]site.Leaf{1: site.Leaf(0).Put(1, 2, 1)}, site.Leaf(0).Put(3, 0, 1)},
		{[4]site.Leaf{2: site.Leaf(0).Put(2, 1, 2)}, site.Leaf(0).Put(0, 3, 2)},
		{[4]site.Leaf{3: site.Leaf(0).Put(1, 1, 3)}, site.Leaf(0).Put(3, 3, 3)},
		{[4]site.Leaf{3: site.Leaf(0).Put(2, 1, 3)}, 0},
		{[4]site.Leaf{full, full, full, full}, full},
	} {
		if f := m.Result(x.q, 0); f != x.want {
			t.Errorf("Result(%x, 0) = %x, not %x", x.q, f, x.want)
		}
	}
}

// Three hexagons beside each other, some of each quarter but one: by the steps of their set.
func TestResultBySteps(t *testing.T) {
	at := func(a, b int64) cell.Cell { return cell.Cell{At: axis.Point{A: a, B: b}} }
	s := set.Of(at(3, 3), at(4, 3), at(3, 4))
	for _, text := range []string{"B2/SH", "B2/S34H", "B1/S2H"} {
		k := kernel(t, text)
		leaves := site.Leaves(s)
		q := [4]site.Leaf{leaves[axis.Point{}], leaves[axis.Point{A: 4}], leaves[axis.Point{B: 4}], leaves[axis.Point{A: 4, B: 4}]}
		m := leaf.New(k, 5)
		for n := range 3 {
			then, err := flat.Steps(k.Table(), s, n)
			if err != nil {
				t.Fatal(err)
			}
			back, err := then.Shift(axis.Point{A: -2, B: -2})
			if err != nil {
				t.Fatal(err)
			}
			if f, want := m.Result(q, n), site.Leaves(back)[axis.Point{}]; f != want {
				t.Errorf("%s: Result(%x, %d) = %x, not %x", text, q, n, f, want)
			}
		}
	}
}

func TestResultOfQuartersWithoutBits(t *testing.T) {
	for _, text := range rules {
		m := leaf.New(kernel(t, text), 9)
		for _, n := range []int{math.MinInt, -1, 0, 1, 2, 3, math.MaxInt} {
			if f := m.Result([4]site.Leaf{}, n); f != 0 {
				t.Errorf("%s: Result of none, %d = %x", text, n, f)
			}
		}
		counts(t, m, 0, 0)
	}
}

// One bit anywhere is enough to be made and kept, also one of Half 1 that counts for nothing on Hex.
func TestResultOfOneBit(t *testing.T) {
	for _, text := range []string{"B1/S0H", "B1/S0E", "B/SV"} {
		k := kernel(t, text)
		m := leaf.New(k, 1000)
		done := 0
		for i := range 4 {
			for bit := range 32 {
				var q [4]site.Leaf
				q[i] = 1 << bit
				for n := 1; n <= 2; n++ {
					if f, want := m.Result(q, n), middle(k, q, n); f != want {
						t.Errorf("%s: Result(%x, %d) = %x, not %x", text, q, n, f, want)
					}
					done++
					counts(t, m, done, done)
				}
			}
		}
	}
}

// Above 2 counts as 2: it is the same result, made once.
func TestResultOfManyGenerations(t *testing.T) {
	for _, text := range rules {
		k := kernel(t, text)
		for _, first := range []int{2, 3, 9, math.MaxInt} {
			m := leaf.New(k, 9)
			for _, n := range []int{first, 2, 3, 4, 9, 1 << 32, math.MaxInt - 1, math.MaxInt} {
				if f, want := m.Result(any4, n), middle(k, any4, 2); f != want {
					t.Errorf("%s: Result(%d) = %x, not %x", text, n, f, want)
				}
				counts(t, m, 1, 1)
			}
		}
	}
}

// Asked again nothing is made; another number of generations, or another order of quarters, is another result.
func TestMadeAndKept(t *testing.T) {
	k := kernel(t, "B2/S34H")
	m := leaf.New(k, 100)
	m.Result(any4, 1)
	counts(t, m, 1, 1)
	m.Result(any4, 1)
	counts(t, m, 1, 1)
	m.Result(any4, 2)
	counts(t, m, 2, 2)
	m.Result(any4, 1)
	m.Result(any4, 2)
	counts(t, m, 2, 2)
	made := 2
	for _, q := range [][4]site.Leaf{
		{any4[1], any4[0], any4[2], any4[3]},
		{any4[0], any4[2], any4[1], any4[3]},
		{any4[0], any4[1], any4[3], any4[2]},
		{any4[3], any4[1], any4[2], any4[0]},
		{any4[3], any4[2], any4[1], any4[0]},
	} {
		for n := 1; n <= 2; n++ {
			made++
			for range 2 {
				if f, want := m.Result(q, n), middle(k, q, n); f != want {
					t.Errorf("Result(%x, %d) = %x, not %x", q, n, f, want)
				}
				counts(t, m, made, made)
			}
		}
	}
	m.Clear()
	counts(t, m, made, 0)
	m.Clear()
	counts(t, m, made, 0)
	m.Result(any4, 2)
	counts(t, m, made+1, 1)
}

// A result by which nothing lives is one too: made once.
func TestResultWithoutCells(t *testing.T) {
	m := leaf.New(kernel(t, "B/SH"), 3)
	for range 3 {
		if f := m.Result(any4, 1); f != 0 {
			t.Errorf("Result = %x", f)
		}
	}
	counts(t, m, 1, 1)
}

// Where most are kept already, all go first: not one of them, and not when what is asked is kept.
func TestAllGoFirst(t *testing.T) {
	k := kernel(t, "B2/S34H")
	for most := 1; most <= 5; most++ {
		m := leaf.New(k, most)
		for i := range most {
			m.Result([4]site.Leaf{site.Leaf(i + 1)}, 1)
			counts(t, m, i+1, i+1)
		}
		for i := range most {
			m.Result([4]site.Leaf{site.Leaf(i + 1)}, 1)
			counts(t, m, most, most)
		}
		m.Result([4]site.Leaf{}, 2)
		m.Result([4]site.Leaf{100}, 0)
		counts(t, m, most, most)
		m.Result([4]site.Leaf{100}, 1)
		counts(t, m, most+1, 1)
		m.Result([4]site.Leaf{100}, 1)
		counts(t, m, most+1, 1)
		// The others went: each is made anew.
		m.Result([4]site.Leaf{1}, 1)
		counts(t, m, most+2, min(2, most))
	}
}

// With nothing that may be kept, everything is made each time.
func TestNothingMayBeKept(t *testing.T) {
	k := kernel(t, "B2/S34H")
	for _, most := range []int{0, -1, -2, math.MinInt} {
		m := leaf.New(k, most)
		for i := range 5 {
			if f, want := m.Result(any4, 2), middle(k, any4, 2); f != want {
				t.Errorf("Result = %x, not %x", f, want)
			}
			counts(t, m, i+1, 0)
		}
		m.Clear()
		counts(t, m, 5, 0)
	}
}

// Any calls, one behind the other, held against the chapter's words; results hang on nothing that is kept.
func TestAnyCalls(t *testing.T) {
	r := rand.New(rand.NewSource(21))
	leaves := []site.Leaf{0, 0, 0x00410410, 0x28a00a28, full}
	times := []int{-5, -1, 0, 1, 1, 2, 2, 3, 7}
	for _, text := range rules {
		k := kernel(t, text)
		for _, most := range []int{-3, 0, 1, 2, 3, 10, 100, 100000} {
			m, want := leaf.New(k, most), &model{most: most}
			for range 300 {
				if r.Intn(60) == 0 {
					m.Clear()
					want.kept = nil
				} else {
					q, n := anyQuarters(r, leaves), times[r.Intn(len(times))]
					want.result(q, n)
					if f, right := m.Result(q, n), middle(k, q, n); f != right {
						t.Fatalf("%s: Result(%x, %d) = %x, not %x", text, q, n, f, right)
					}
				}
				same(t, m, want)
			}
		}
	}
}

// Quarters of any bits, by memos that keep nothing, one, some and all: they tell the same.
func TestWhatIsKeptDoesNotShow(t *testing.T) {
	r := rand.New(rand.NewSource(22))
	for _, text := range rules {
		k := kernel(t, text)
		memos := []*leaf.Memo{leaf.New(k, 0), leaf.New(k, 1), leaf.New(k, 7), leaf.New(k, 1000)}
		var seen [][4]site.Leaf
		for i := range 200 {
			var q [4]site.Leaf
			for j := range q {
				q[j] = site.Leaf(r.Uint32() & r.Uint32())
			}
			seen = append(seen, q)
			if i%3 == 0 {
				q = seen[r.Intn(len(seen))]
			}
			n := r.Intn(4)
			want := middle(k, q, n)
			for _, m := range memos {
				if f := m.Result(q, n); f != want {
					t.Fatalf("%s: Result(%x, %d) = %x, not %x", text, q, n, f, want)
				}
			}
		}
	}
}

// Memos of one kernel have nothing in common; nor does the kernel change.
func TestMemosApart(t *testing.T) {
	k := kernel(t, "B2/S34H")
	table := k.Table()
	m, n := leaf.New(k, 5), leaf.New(k, 5)
	m.Result(any4, 1)
	m.Result(any4, 2)
	counts(t, n, 0, 0)
	n.Result(any4, 1)
	m.Clear()
	counts(t, m, 2, 0)
	counts(t, n, 1, 1)
	if k.Table() != table || k.Table().Lattice != api.Hex {
		t.Errorf("the kernel's table is %v", k.Table())
	}
}

// By each its own kernel: the same quarters become something else.
func TestMemosOfOtherKernels(t *testing.T) {
	q := [4]site.Leaf{full, full, full, full}
	stay, die := leaf.New(kernel(t, "B/S6H"), 5), leaf.New(kernel(t, "B/S5H"), 5)
	for range 2 {
		if f, g := stay.Result(q, 1), die.Result(q, 1); f != 0x55555555 || g != 0 {
			t.Errorf("Result = %x, %x", f, g)
		}
	}
}

// The kernel is the one that was handed in, whatever becomes of the caller's variable: else what is kept would show.
func TestKernelOfItsOwn(t *testing.T) {
	k := kernel(t, "B/S6H")
	m := leaf.New(k, 5)
	q := [4]site.Leaf{full, full, full, full}
	kept := m.Result(q, 1)
	*k = *kernel(t, "B/S5H")
	if f := m.Result(q, 1); f != kept {
		t.Errorf("Result = %x, not %x", f, kept)
	}
	m.Clear()
	if f := m.Result(q, 1); f != kept {
		t.Errorf("Result behind Clear = %x, not %x", f, kept)
	}
}

// A memo that New didn't make has a kernel by which nothing lives, and keeps nothing.
func TestMemoThatWasNotMade(t *testing.T) {
	var m leaf.Memo
	counts(t, &m, 0, 0)
	if f := m.Result(any4, 0); f != block.Of(any4).Middle() {
		t.Errorf("Result = %x", f)
	}
	if f := m.Result(any4, 1); f != 0 {
		t.Errorf("Result = %x", f)
	}
	counts(t, &m, 1, 0)
	m.Clear()
	counts(t, &m, 1, 0)
}
