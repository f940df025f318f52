package block_test

import (
	"math"
	"math/rand"
	"testing"

	"honeycomb/block"
	"honeycomb/site"
	"honeycomb/table"
)

// The calls have just these signatures.
var (
	_ func(table.Table) (*block.Kernel, error)     = block.New
	_ func(*block.Kernel) table.Table              = (*block.Kernel).Table
	_ func([4]site.Leaf) block.Block               = block.Of
	_ func(block.Block, int, int) int              = block.Block.State
	_ func(*block.Kernel, block.Block) block.Block = (*block.Kernel).Step
	_ func(block.Block) site.Leaf                  = block.Block.Middle
	_ func(block.Block) [4]site.Leaf               = block.Block.Quarters
	_ func(block.Block) bool                       = block.Block.Empty
	_ [block.Side]uint16                           = [8]uint16{}
	_ [8]uint16                                    = block.Block{}
	_ map[block.Block]struct{}                     = nil
)

const all = site.Leaf(math.MaxUint32)

// fullBlock is the one in which all bits are 1.
var fullBlock = block.Block{0xffff, 0xffff, 0xffff, 0xffff, 0xffff, 0xffff, 0xffff, 0xffff}

// outside are numbers that no point of a block is above its least one.
var outside = []int{-1, -2, -8, -64, 8, 9, 15, 16, 64, 1 << 31, 1 << 32, 1 << 60, 1 << 61, 1 << 62, -1 << 32, -1 << 62, math.MaxInt, math.MinInt}

// anyBlocks are some without cells, full, with one bit each, and of any bits, few of them and many.
func anyBlocks(r *rand.Rand) []block.Block {
	blocks := []block.Block{{}, fullBlock}
	for i := range 128 {
		var one block.Block
		one[i/16] = 1 << (i % 16)
		but := fullBlock
		but[i/16] ^= one[i/16]
		blocks = append(blocks, one, but)
	}
	for i := range 100 {
		blocks = append(blocks, anyBlock(r, 1+i%4))
	}
	return blocks
}

// stateOf is that of a point, by the chapter's words.
func stateOf(x block.Block, a, b int) int {
	return int(x[b]>>(2*a)&1 + x[b]>>(2*a+1)&1*2)
}

func TestState(t *testing.T) {
	for _, x := range anyBlocks(rand.New(rand.NewSource(1))) {
		for b := range 8 {
			for a := range 8 {
				if n := x.State(a, b); n != stateOf(x, a, b) {
					t.Errorf("%x.State(%d, %d) = %d", x, a, b, n)
				}
			}
		}
	}
}

func TestStateOutside(t *testing.T) {
	for _, x := range []block.Block{{}, fullBlock} {
		for _, out := range outside {
			for _, near := range append([]int{0, 1, 2, 3, 4, 5, 6, 7}, outside...) {
				if n, m := x.State(out, near), x.State(near, out); n != 0 || m != 0 {
					t.Errorf("%x.State(%d, %d) = %d, the other way round %d", x, out, near, n, m)
				}
			}
		}
	}
}

func TestOfExamples(t *testing.T) {
	for _, x := range []struct {
		quarters [4]site.Leaf
		want     block.Block
	}{
		{[4]site.Leaf{}, block.Block{}},
		{[4]site.Leaf{all, all, all, all}, fullBlock},
		{[4]site.Leaf{1, 0, 0, 0}, block.Block{1}},
		{[4]site.Leaf{0, 1, 0, 0}, block.Block{1 << 8}},
		{[4]site.Leaf{0, 0, 1, 0}, block.Block{4: 1}},
		{[4]site.Leaf{0, 0, 0, 1}, block.Block{4: 1 << 8}},
		{[4]site.Leaf{0, 0, 0, 1 << 31}, block.Block{7: 1 << 15}},
		{[4]site.Leaf{all, 0, 0, all}, block.Block{0xff, 0xff, 0xff, 0xff, 0xff00, 0xff00, 0xff00, 0xff00}},
		{[4]site.Leaf{0x44332211, 0x88776655, 0xddccbbaa, 0x120f01ee}, block.Block{0x5511, 0x6622, 0x7733, 0x8844, 0xeeaa, 0x01bb, 0x0fcc, 0x12dd}},
	} {
		if y := block.Of(x.quarters); y != x.want {
			t.Errorf("Of(%x) = %x", x.quarters, y)
		}
		if q := x.want.Quarters(); q != x.quarters {
			t.Errorf("%x.Quarters() = %x", x.want, q)
		}
	}
}

// Each point of a block has the state that its quarter has there.
func TestOfPointByPoint(t *testing.T) {
	r := rand.New(rand.NewSource(2))
	for range 200 {
		quarters := [4]site.Leaf{site.Leaf(r.Uint32()), site.Leaf(r.Uint32()), site.Leaf(r.Uint32()), site.Leaf(r.Uint32())}
		x := block.Of(quarters)
		for b := range 8 {
			for a := range 8 {
				if want := quarters[b/4*2+a/4].State(a%4, b%4); stateOf(x, a, b) != want {
					t.Fatalf("Of(%x) = %x has %d at (%d, %d)", quarters, x, stateOf(x, a, b), a, b)
				}
			}
		}
		if q := x.Quarters(); q != quarters {
			t.Fatalf("quarters of Of(%x) = %x", quarters, q)
		}
	}
}

func TestQuartersThereAndBack(t *testing.T) {
	for _, x := range anyBlocks(rand.New(rand.NewSource(3))) {
		if y := block.Of(x.Quarters()); y != x {
			t.Errorf("Of of the quarters of %x = %x", x, y)
		}
	}
}

func TestMiddle(t *testing.T) {
	if f := block.Of([4]site.Leaf{all, all, all, all}).Middle(); f != all {
		t.Errorf("Middle of all = %x", f)
	}
	for _, x := range anyBlocks(rand.New(rand.NewSource(4))) {
		f := x.Middle()
		for b := range 4 {
			for a := range 4 {
				if f.State(a, b) != stateOf(x, a+2, b+2) {
					t.Errorf("Middle of %x = %x", x, f)
				}
			}
		}
	}
}

// Of each quarter just the corner at the block's middle is in the Middle, at the other end of it.
func TestMiddleOfEachCorner(t *testing.T) {
	for i, want := range [4]site.Leaf{0x00000f0f, 0x0000f0f0, 0x0f0f0000, 0xf0f00000} {
		var quarters [4]site.Leaf
		quarters[i] = all
		if f := block.Of(quarters).Middle(); f != want {
			t.Errorf("Middle of quarter %d = %x, not %x", i, f, want)
		}
	}
	// The outermost points of the Middle, and those just outside of it.
	for _, x := range []struct {
		at   block.Block
		want site.Leaf
	}{
		{block.Block{2: 3 << 4}, 3}, {block.Block{2: 3 << 10}, 3 << 6}, {block.Block{5: 3 << 4}, 3 << 24}, {block.Block{5: 3 << 10}, 3 << 30},
		{block.Block{2: 3 << 2}, 0}, {block.Block{1: 3 << 4}, 0}, {block.Block{2: 3 << 12}, 0}, {block.Block{6: 3 << 10}, 0},
		{block.Block{0: 0xffff, 1: 0xffff, 6: 0xffff, 7: 0xffff}, 0},
	} {
		if f := x.at.Middle(); f != x.want {
			t.Errorf("Middle of %x = %x, not %x", x.at, f, x.want)
		}
	}
}

func TestEmpty(t *testing.T) {
	for _, x := range anyBlocks(rand.New(rand.NewSource(5))) {
		live := 0
		for _, f := range x.Quarters() {
			live += f.Count()
		}
		if x.Empty() != (live == 0) {
			t.Errorf("%x.Empty() = %v", x, x.Empty())
		}
	}
	if !(block.Block{}).Empty() || !block.Of([4]site.Leaf{}).Empty() {
		t.Error("a block without cells isn't empty")
	}
}
