package turn_test

import (
	"math"
	"math/rand"
	"testing"

	"honeycomb/api"
	"honeycomb/arena"
	"honeycomb/set"
	"honeycomb/site"
	"honeycomb/square"
	"honeycomb/tree"
	"honeycomb/turn"
)

func TestWays(t *testing.T) {
	if turn.Or != 1 || turn.And != 2 || turn.Minus != 3 || turn.Xor != 4 {
		t.Error(turn.Or, turn.And, turn.Minus, turn.Xor)
	}
}

// Any two sets, of roots of the least level and of greater ones: the answer is the root of the least level.
func TestMix(t *testing.T) {
	r := rand.New(rand.NewSource(11))
	a := arena.New(1 << 22)
	sets := anySets(r, api.Edge)
	for _, s := range sets {
		for _, u := range sets {
			x, y := wide(t, a, s, r.Intn(45)), wide(t, a, u, r.Intn(45))
			for how := range ways {
				is(t, a, mixed(how, s, u))(turn.Mix(a, x, y, how))
			}
		}
	}
}

// Sets that share many cells.
func TestMixOfCrowdedSets(t *testing.T) {
	r := rand.New(rand.NewSource(12))
	for range 60 {
		a := arena.New(1 << 20)
		away := 1 + r.Int63n(12)
		for range 5 {
			s, u := some(r, api.Vertex, 1+r.Intn(300), away), some(r, api.Vertex, 1+r.Intn(300), away)
			for how := range ways {
				is(t, a, mixed(how, s, u))(turn.Mix(a, wide(t, a, s, 3+r.Intn(5)), wide(t, a, u, 3+r.Intn(5)), how))
			}
		}
	}
}

// One cell each: the same, the other one at the same point, one in the same leaf, and others.
func TestMixOfTwoCells(t *testing.T) {
	a := arena.New(1 << 20)
	s := set.Of(at(-1, 2, 0))
	for _, level := range []int{3, 5, 44} {
		x := wide(t, a, s, level)
		for _, c := range set.Of(at(-1, 2, 0), at(-1, 2, 1), at(-2, 2, 0), at(-1, 1, 0), at(1, 2, 0), at(-1, -2, 0), at(-5, 2, 0), at(700, -700, 1)) {
			u := set.Of(c)
			for how := range ways {
				is(t, a, mixed(how, s, u))(turn.Mix(a, x, built(t, a, u), how))
				is(t, a, mixed(how, u, s))(turn.Mix(a, built(t, a, u), x, how))
			}
		}
	}
}

func TestMixOfARootAndItself(t *testing.T) {
	r := rand.New(rand.NewSource(13))
	a := arena.New(1 << 20)
	for _, s := range anySets(r, api.Edge) {
		for _, level := range []int{3, 20, 44} {
			x := wide(t, a, s, level)
			for how, want := range map[int]set.Set{turn.Or: s, turn.And: s, turn.Minus: nil, turn.Xor: nil} {
				is(t, a, want)(turn.Mix(a, x, x, how))
				is(t, a, want)(turn.Mix(a, x, built(t, a, s), how))
			}
		}
	}
}

// With one that has no cells, and of two such: of whatever levels.
func TestMixWithoutCells(t *testing.T) {
	r := rand.New(rand.NewSource(14))
	a := arena.New(1 << 20)
	for _, s := range anySets(r, api.Edge) {
		for _, level := range []int{3, 4, 17, 44} {
			x, none := built(t, a, s), answered(t)(a.Empty(level))
			for how := range ways {
				is(t, a, mixed(how, s, nil))(turn.Mix(a, x, none, how))
				is(t, a, mixed(how, nil, s))(turn.Mix(a, none, x, how))
				is(t, a, nil)(turn.Mix(a, none, answered(t)(a.Empty(3+r.Intn(42))), how))
			}
		}
	}
}

// Cells beyond the page may be put together: only their coordinates are no good.
func TestMixBeyondThePage(t *testing.T) {
	a := arena.New(1 << 16)
	far := int64(1) << 43
	s, u := set.Of(at(-far, far-1, 0), at(page+1, 0, 1), at(0, 0, 0)), set.Of(at(-far, far-1, 0), at(far-1, -far, 1), at(0, 0, 1))
	for how := range ways {
		is(t, a, mixed(how, s, u))(turn.Mix(a, built(t, a, s), built(t, a, u), how))
		is(t, a, mixed(how, u, s))(turn.Mix(a, built(t, a, u), built(t, a, s), how))
	}
}

func TestNoSuchWay(t *testing.T) {
	a := arena.New(1000)
	x, y := built(t, a, set.Of(at(1, 2, 0))), wide(t, a, set.Of(at(3, 2, 1)), 7)
	for range 2 {
		unchanged(t, a, func() {
			for _, how := range []int{math.MinInt, -1 << 32, -4, -1, 0, 5, 6, 1<<32 + 1, math.MaxInt} {
				refused(t, api.ErrArg)(turn.Mix(a, x, y, how))
				refused(t, api.ErrArg)(turn.Mix(a, x, x, how))
				refused(t, api.ErrArg)(turn.Mix(a, 0, x, how))
			}
		})
		leave(t, a, 0)
	}
}

// Squares with more cells than can be gone through one by one: all of their leaves are the same.
func TestMixOfFullSquares(t *testing.T) {
	leaves := []site.Leaf{1<<32 - 1, 0x55555555, 0xaaaaaaaa, 0x12345678, 0x80000000, 1}
	for _, level := range []int{3, 4, 9, 20, 33} {
		a := arena.New(1 << 16)
		for _, f := range leaves {
			for _, g := range leaves {
				x, y := full(t, a, level, f), full(t, a, level, g)
				for how, h := range map[int]site.Leaf{turn.Or: f | g, turn.And: f & g, turn.Minus: f &^ g, turn.Xor: f ^ g} {
					want := answered(t)(square.Trim(a, full(t, a, level, h)))
					if i, err := turn.Mix(a, x, y, how); i != want || err != nil {
						t.Errorf("%x by %d with %x, of level %d: %d, %v, not %d", f, how, g, level, i, err, want)
					}
				}
			}
		}
	}
}

// Of MostCount cells and more: such an answer stays of its level; one that has less of them is of the least.
func TestMixOfMostCount(t *testing.T) {
	a := arena.New(1 << 16)
	x := full(t, a, 44, 1<<32-1)
	y := answered(t)(tree.Put(a, x, at(5, -3, 1), false))
	least := answered(t)(a.Empty(3))
	for _, c := range []struct {
		x, y uint32
		how  int
		want uint32
	}{
		{x, x, turn.Or, x}, {x, x, turn.And, x}, {x, x, turn.Minus, least}, {x, x, turn.Xor, least},
		{x, y, turn.Or, x}, {x, y, turn.And, y}, {y, x, turn.Minus, least}, {y, x, turn.Or, x},
		{x, least, turn.Or, x}, {least, x, turn.And, least}, {least, x, turn.Xor, x}, {x, least, turn.Minus, x},
		{x, full(t, a, 44, 0x55555555), turn.Minus, full(t, a, 44, 0xaaaaaaaa)},
	} {
		if i, err := turn.Mix(a, c.x, c.y, c.how); i != c.want || err != nil {
			t.Errorf("Mix of %d and %d by %d = %d, %v, not %d", c.x, c.y, c.how, i, err, c.want)
		}
	}
	is(t, a, set.Of(at(5, -3, 1)))(turn.Mix(a, x, y, turn.Minus))
	is(t, a, set.Of(at(5, -3, 1)))(turn.Mix(a, y, x, turn.Xor))
	// Of different levels: the small one is in the middle of the great one.
	small := full(t, a, 6, 1<<32-1)
	if i, err := turn.Mix(a, x, small, turn.And); i != small || err != nil {
		t.Errorf("And with a small one = %d, %v, not %d", i, err, small)
	}
	hole := answered(t)(turn.Mix(a, x, small, turn.Minus))
	if a.Level(hole) != 44 || a.Count(hole) != arena.MostCount || tree.Get(a, hole, at(-32, 31, 0)) || !tree.Get(a, hole, at(-33, 31, 0)) || !tree.Get(a, hole, at(32, 0, 1)) {
		t.Error("Minus a small one")
	}
	if i, err := turn.Mix(a, hole, small, turn.Xor); i != x || err != nil {
		t.Errorf("Xor of that with it = %d, %v, not %d", i, err, x)
	}
}

// woven is roots of a level, each of whose squares is at many places: by way of each of them it couldn't be gone through.
func woven(t *testing.T, a *arena.Arena, r *rand.Rand, level int) []uint32 {
	t.Helper()
	nodes := []uint32{answered(t)(a.Leaf(site.Leaf(r.Uint32()))), answered(t)(a.Leaf(site.Leaf(r.Uint32()))), 0}
	for range level - 2 {
		above := make([]uint32, 0, len(nodes))
		for range nodes {
			above = append(above, answered(t)(a.Join([4]uint32{nodes[r.Intn(3)], nodes[r.Intn(3)], nodes[r.Intn(3)], nodes[r.Intn(3)]})))
		}
		nodes = above
	}
	return nodes
}

// The laws of sets hold of those that can't be gone through, too.
func TestMixOfWovenSquares(t *testing.T) {
	r := rand.New(rand.NewSource(15))
	for range 30 {
		a := arena.New(1 << 20)
		nodes := woven(t, a, r, 3+r.Intn(42))
		x, y, z := nodes[0], nodes[1], nodes[2]
		mix := func(x, y uint32, how int) uint32 { return answered(t)(turn.Mix(a, x, y, how)) }
		none := answered(t)(a.Empty(3))
		for _, law := range [][2]uint32{
			{mix(mix(x, y, turn.Xor), y, turn.Xor), mix(x, none, turn.Or)},
			{mix(mix(x, y, turn.And), mix(x, y, turn.Minus), turn.Or), mix(x, x, turn.Or)},
			{mix(x, mix(y, z, turn.Or), turn.And), mix(mix(x, y, turn.And), mix(x, z, turn.And), turn.Or)},
			{mix(mix(x, y, turn.Or), mix(x, y, turn.And), turn.Minus), mix(x, y, turn.Xor)},
			{mix(x, y, turn.Or), mix(y, x, turn.Or)},
			{mix(mix(x, y, turn.Minus), y, turn.And), none},
		} {
			if law[0] != law[1] {
				t.Fatalf("root %d of level %d with %d cells isn't %d of level %d with %d", law[0], a.Level(law[0]), a.Count(law[0]), law[1], a.Level(law[1]), a.Count(law[1]))
			}
		}
	}
}
