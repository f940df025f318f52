package arena_test

import (
	"math"
	"math/rand"
	"slices"
	"testing"

	"honeycomb/api"
	"honeycomb/arena"
	"honeycomb/site"
)

// The calls have just these signatures.
var (
	_ func(int) *arena.Arena                        = arena.New
	_ func(*arena.Arena) int                        = (*arena.Arena).Len
	_ func(*arena.Arena) int                        = (*arena.Arena).Most
	_ func(*arena.Arena, int) error                 = (*arena.Arena).SetMost
	_ func(*arena.Arena, site.Leaf) (uint32, error) = (*arena.Arena).Leaf
	_ func(*arena.Arena, [4]uint32) (uint32, error) = (*arena.Arena).Join
	_ func(*arena.Arena, int) (uint32, error)       = (*arena.Arena).Empty
	_ func(*arena.Arena, uint32) int                = (*arena.Arena).Level
	_ func(*arena.Arena, uint32) site.Leaf          = (*arena.Arena).Bits
	_ func(*arena.Arena, uint32) [4]uint32          = (*arena.Arena).Kids
	_ func(*arena.Arena, uint32) uint64             = (*arena.Arena).Count
	_ [arena.LeafLevel]struct{}                     = [2]struct{}{}
	_ [arena.Least]struct{}                         = [64]struct{}{}
	_ [arena.MostCount]struct{}                     = [1 << 62]struct{}{}
	_ uint64                                        = arena.MostCount
)

const full = site.Leaf(math.MaxUint32)

// leafOf is the node of a leaf for which there is room.
func leafOf(t *testing.T, a *arena.Arena, f site.Leaf) uint32 {
	t.Helper()
	i, err := a.Leaf(f)
	if err != nil {
		t.Fatalf("Leaf(%x): %v", f, err)
	}
	return i
}

// joined is the node of kids for which there is room.
func joined(t *testing.T, a *arena.Arena, kids ...uint32) uint32 {
	t.Helper()
	i, err := a.Join([4]uint32(kids))
	if err != nil {
		t.Fatalf("Join(%v): %v", kids, err)
	}
	return i
}

// empty is the node of a level without cells, for which there is room.
func empty(t *testing.T, a *arena.Arena, level int) uint32 {
	t.Helper()
	i, err := a.Empty(level)
	if err != nil {
		t.Fatalf("Empty(%d): %v", level, err)
	}
	return i
}

// filled has as many nodes as it may have: leaves of bits from 1000 on, behind those that it has.
func filled(t *testing.T, a *arena.Arena) *arena.Arena {
	t.Helper()
	for f := site.Leaf(1000); a.Len() < a.Most(); f++ {
		leafOf(t, a, f)
	}
	return a
}

// refused: 0 beside that error, and no node is more or less.
func refused(t *testing.T, a *arena.Arena, code api.Code, call func() (uint32, error)) {
	t.Helper()
	before, most := a.Len(), a.Most()
	if i, err := call(); i != 0 || err != error(code) {
		t.Errorf("%d, %v, not %v", i, err, code)
	}
	if a.Len() != before || a.Most() != most {
		t.Errorf("%d of %d nodes, not %d of %d", a.Len(), a.Most(), before, most)
	}
}

// Example 1 of the chapter.
func TestExample(t *testing.T) {
	a := arena.New(9)
	if a.Most() != 64 || leafOf(t, a, 1) != leafOf(t, a, 1) || a.Len() != 2 {
		t.Errorf("%d of %d nodes", a.Len(), a.Most())
	}
}

func TestNew(t *testing.T) {
	for _, x := range []struct{ most, want int }{
		{math.MinInt, 64}, {-1, 64}, {0, 64}, {1, 64}, {63, 64}, {64, 64}, {65, 65}, {1000, 1000},
		{1 << 31, 1 << 31}, {1 << 32, 1 << 32}, {math.MaxInt - 63, math.MaxInt - 63}, {math.MaxInt, math.MaxInt},
	} {
		a := arena.New(x.most)
		if a.Len() != 1 || a.Most() != x.want {
			t.Errorf("New(%d): %d of %d nodes", x.most, a.Len(), a.Most())
		}
		if a.Level(0) != 2 || a.Bits(0) != 0 || a.Kids(0) != [4]uint32{} || a.Count(0) != 0 {
			t.Errorf("New(%d): node 0 is %d, %x, %v, %d", x.most, a.Level(0), a.Bits(0), a.Kids(0), a.Count(0))
		}
		if a.Level(1) != -1 {
			t.Errorf("New(%d) has a node 1", x.most)
		}
	}
}

// As many nodes as New says may be made, and not one more.
func TestMostNodes(t *testing.T) {
	for _, most := range []int{-5, 64, 65, 66, 300} {
		a := arena.New(most)
		for f := site.Leaf(1); a.Len() < max(most, 64); f++ {
			leafOf(t, a, f)
		}
		refused(t, a, api.ErrBudget, func() (uint32, error) { return a.Leaf(full) })
	}
}

func TestSetMost(t *testing.T) {
	a := arena.New(100)
	for f := site.Leaf(1); a.Len() < 80; f++ {
		leafOf(t, a, f)
	}
	for _, x := range []struct {
		n, most int
		err     error
	}{
		{math.MinInt, 100, api.ErrBudget}, {-1, 100, api.ErrBudget}, {0, 100, api.ErrBudget}, {64, 100, api.ErrBudget},
		{79, 100, api.ErrBudget}, {80, 80, nil}, {79, 80, api.ErrBudget}, {81, 81, nil}, {80, 80, nil},
		{math.MaxInt, math.MaxInt, nil}, {1000, 1000, nil}, {63, 1000, api.ErrBudget},
	} {
		if err := a.SetMost(x.n); err != x.err || a.Most() != x.most || a.Len() != 80 {
			t.Errorf("SetMost(%d) = %v: %d of %d nodes", x.n, err, a.Len(), a.Most())
		}
	}
}

// Below Least counts as Least: that may be too few as well, or just enough.
func TestSetMostBelowLeast(t *testing.T) {
	for _, n := range []int{math.MinInt, -1, 0, 1, 63, 64} {
		for _, nodes := range []int{1, 2, 63, 64} {
			a := arena.New(1000)
			for f := site.Leaf(1); a.Len() < nodes; f++ {
				leafOf(t, a, f)
			}
			if err := a.SetMost(n); err != nil || a.Most() != 64 || a.Len() != nodes {
				t.Errorf("SetMost(%d) of %d nodes = %v: %d", n, nodes, err, a.Most())
			}
		}
		a := filled(t, arena.New(65))
		if err := a.SetMost(n); err != error(api.ErrBudget) || a.Most() != 65 {
			t.Errorf("SetMost(%d) of 65 nodes = %v: %d", n, err, a.Most())
		}
	}
}

// SetMost makes room, or takes it.
func TestSetMostAndRoom(t *testing.T) {
	a := filled(t, arena.New(64))
	refused(t, a, api.ErrBudget, func() (uint32, error) { return a.Leaf(7) })
	if a.SetMost(65) != nil {
		t.Fatal("no SetMost(65)")
	}
	seven := leafOf(t, a, 7)
	refused(t, a, api.ErrBudget, func() (uint32, error) { return a.Leaf(8) })
	if a.SetMost(70) != nil || a.SetMost(65) != nil {
		t.Fatal("no SetMost(70), SetMost(65)")
	}
	refused(t, a, api.ErrBudget, func() (uint32, error) { return a.Leaf(8) })
	if a.Bits(seven) != 7 {
		t.Errorf("Bits = %x", a.Bits(seven))
	}
}

func TestLeaf(t *testing.T) {
	a := arena.New(1000)
	if i := leafOf(t, a, 0); i != 0 || a.Len() != 1 {
		t.Errorf("the leaf without cells is %d of %d", i, a.Len())
	}
	leaves := []site.Leaf{full, 1, 2, 3, 1 << 31, 1<<31 | 1, full - 1, full >> 1, 0x55555555, 0xaaaaaaaa}
	var numbers []uint32
	for n, f := range leaves {
		i := leafOf(t, a, f)
		if slices.Contains(numbers, i) || i == 0 || int(i) >= a.Len() || a.Len() != n+2 {
			t.Errorf("Leaf(%x) = %d of %d", f, i, a.Len())
		}
		numbers = append(numbers, i)
	}
	for n, f := range leaves {
		i := numbers[n]
		if leafOf(t, a, f) != i || a.Bits(i) != f || a.Level(i) != 2 || a.Kids(i) != [4]uint32{} || a.Count(i) != uint64(f.Count()) {
			t.Errorf("Leaf(%x) = %d: %x, %d, %v, %d", f, leafOf(t, a, f), a.Bits(i), a.Level(i), a.Kids(i), a.Count(i))
		}
	}
	if a.Len() != 11 || leafOf(t, a, 0) != 0 || a.Count(numbers[0]) != 32 {
		t.Errorf("%d nodes", a.Len())
	}
}

func TestLeafWithNoRoom(t *testing.T) {
	a := arena.New(64)
	one, all := leafOf(t, a, 1), leafOf(t, a, full)
	filled(t, a)
	for _, f := range []site.Leaf{2, 3, 1 << 31, full - 1} {
		for range 2 {
			refused(t, a, api.ErrBudget, func() (uint32, error) { return a.Leaf(f) })
		}
	}
	if leafOf(t, a, 1) != one || leafOf(t, a, full) != all || leafOf(t, a, 0) != 0 || a.Len() != 64 {
		t.Errorf("leaves that are there: %d nodes", a.Len())
	}
}

func TestJoin(t *testing.T) {
	a := arena.New(1000)
	x, y, z := leafOf(t, a, 7), leafOf(t, a, 8), leafOf(t, a, full)
	n := joined(t, a, x, y, 0, z)
	if n == x || n == y || n == z || n == 0 || a.Len() != 5 {
		t.Errorf("Join = %d of %d", n, a.Len())
	}
	if a.Level(n) != 3 || a.Bits(n) != 0 || a.Kids(n) != [4]uint32{x, y, 0, z} || a.Count(n) != 36 {
		t.Errorf("Join: %d, %x, %v, %d", a.Level(n), a.Bits(n), a.Kids(n), a.Count(n))
	}
	if joined(t, a, x, y, 0, z) != n || a.Len() != 5 {
		t.Errorf("Join again = %d of %d", joined(t, a, x, y, 0, z), a.Len())
	}
	m := joined(t, a, n, n, n, n)
	if a.Level(m) != 4 || a.Bits(m) != 0 || a.Kids(m) != [4]uint32{n, n, n, n} || a.Count(m) != 144 || a.Len() != 6 {
		t.Errorf("Join: %d, %x, %v, %d of %d", a.Level(m), a.Bits(m), a.Kids(m), a.Count(m), a.Len())
	}
}

// Each order of kids is a node of its own.
func TestJoinInOtherOrders(t *testing.T) {
	a := arena.New(1000)
	kids := []uint32{0, leafOf(t, a, 1), leafOf(t, a, 2), leafOf(t, a, 3)}
	seen := map[uint32][4]uint32{}
	for round := range 2 {
		for i := range 256 {
			k := [4]uint32{kids[i&3], kids[i>>2&3], kids[i>>4&3], kids[i>>6&3]}
			n := joined(t, a, k[:]...)
			if before, ok := seen[n]; ok != (round == 1) || ok && before != k || a.Kids(n) != k {
				t.Fatalf("Join(%v) = %d, with %v", k, n, a.Kids(n))
			}
			seen[n] = k
		}
		if a.Len() != 4+256 {
			t.Errorf("%d nodes", a.Len())
		}
	}
}

func TestJoinOfKidsThatAreNotThere(t *testing.T) {
	a := arena.New(1000)
	x := leafOf(t, a, 7)
	top := empty(t, a, 44)
	for _, none := range []uint32{uint32(a.Len()), uint32(a.Len()) + 1, 1 << 31, math.MaxUint32} {
		for place := range 4 {
			for _, other := range []uint32{0, x, top, none} {
				kids := [4]uint32{other, other, other, other}
				kids[place] = none
				refused(t, a, api.ErrArg, func() (uint32, error) { return a.Join(kids) })
			}
		}
	}
}

func TestJoinOfDifferentLevels(t *testing.T) {
	a := arena.New(1000)
	levels := []uint32{leafOf(t, a, 7), 0, empty(t, a, 3), empty(t, a, 4), empty(t, a, 43), empty(t, a, 44)}
	for _, x := range levels {
		for _, y := range levels {
			for place := range 4 {
				kids := [4]uint32{x, x, x, x}
				kids[place] = y
				if a.Level(x) != a.Level(y) {
					refused(t, a, api.ErrArg, func() (uint32, error) { return a.Join(kids) })
				}
			}
		}
	}
}

func TestJoinAboveMaxLevel(t *testing.T) {
	a := arena.New(1000)
	top, below := empty(t, a, 44), empty(t, a, 43)
	other := leafOf(t, a, full)
	for a.Level(other) < 44 {
		other = joined(t, a, other, other, other, other)
	}
	for _, kids := range [][4]uint32{{top, top, top, top}, {other, top, top, top}, {other, other, other, other}} {
		refused(t, a, api.ErrDepth, func() (uint32, error) { return a.Join(kids) })
	}
	if joined(t, a, below, below, below, below) != top {
		t.Error("the node of level 44 isn't joined of those of level 43")
	}
	// ErrArg is ahead of ErrDepth, and both are ahead of ErrBudget.
	refused(t, a, api.ErrArg, func() (uint32, error) { return a.Join([4]uint32{top, top, top, below}) })
	refused(t, a, api.ErrArg, func() (uint32, error) { return a.Join([4]uint32{top, top, top, 5000}) })
	filled(t, a)
	refused(t, a, api.ErrArg, func() (uint32, error) { return a.Join([4]uint32{top, top, below, top}) })
	refused(t, a, api.ErrArg, func() (uint32, error) { return a.Join([4]uint32{0, 0, 0, 5000}) })
	refused(t, a, api.ErrDepth, func() (uint32, error) { return a.Join([4]uint32{top, top, top, top}) })
}

func TestJoinWithNoRoom(t *testing.T) {
	a := arena.New(64)
	x, y := leafOf(t, a, 7), leafOf(t, a, 8)
	n := joined(t, a, x, y, 0, x)
	filled(t, a)
	for _, kids := range [][4]uint32{{0, 0, 0, 0}, {y, x, 0, x}, {x, x, x, x}, {n, n, n, n}} {
		for range 2 {
			refused(t, a, api.ErrBudget, func() (uint32, error) { return a.Join(kids) })
		}
	}
	if joined(t, a, x, y, 0, x) != n || a.Len() != 64 {
		t.Errorf("Join of what is there: %d nodes", a.Len())
	}
	// What was refused isn't taken for made, as soon as there is room.
	if err := a.SetMost(65); err != nil {
		t.Fatal(err)
	}
	m := joined(t, a, y, x, 0, x)
	if a.Len() != 65 || a.Kids(m) != [4]uint32{y, x, 0, x} || a.Level(m) != 3 {
		t.Errorf("Join = %d: %v", m, a.Kids(m))
	}
}

func TestEmpty(t *testing.T) {
	a := arena.New(1000)
	for _, level := range []int{math.MinInt, -1 << 32, -44, -1, 0, 1} {
		refused(t, a, api.ErrArg, func() (uint32, error) { return a.Empty(level) })
	}
	for _, level := range []int{45, 46, 64, 1 << 32, 1<<32 + 3, math.MaxInt} {
		refused(t, a, api.ErrDepth, func() (uint32, error) { return a.Empty(level) })
	}
	below := uint32(0)
	for level := 2; level <= 44; level++ {
		i := empty(t, a, level)
		if a.Len() != level-1 || a.Level(i) != level || a.Count(i) != 0 || a.Bits(i) != 0 || empty(t, a, level) != i {
			t.Errorf("Empty(%d) = %d: %d, %d of %d", level, i, a.Level(i), a.Count(i), a.Len())
		}
		if level == 2 && i != 0 || level > 2 && a.Kids(i) != [4]uint32{below, below, below, below} {
			t.Errorf("Empty(%d) = %d: %v", level, i, a.Kids(i))
		}
		below = i
	}
}

// Level by level, as Leaf and Join would make them: those that are there are the same ones.
func TestEmptyAtOnce(t *testing.T) {
	for level := 2; level <= 44; level++ {
		for from := 2; from <= level; from++ {
			a := arena.New(64)
			some := empty(t, a, from)
			top := empty(t, a, level)
			if a.Len() != level-1 || a.Level(top) != level || empty(t, a, from) != some {
				t.Fatalf("Empty(%d) behind Empty(%d): %d nodes", level, from, a.Len())
			}
			i := top
			for a.Level(i) > from {
				i = a.Kids(i)[3]
			}
			if i != some {
				t.Fatalf("below Empty(%d) is %d, not %d", level, i, some)
			}
		}
	}
}

// The room ends in between: those that were made stay.
func TestEmptyWithNoRoomInBetween(t *testing.T) {
	for room := range 42 {
		a := arena.New(64)
		for f := site.Leaf(1); a.Len() < 64-room; f++ {
			leafOf(t, a, f)
		}
		for range 2 {
			if i, err := a.Empty(44); i != 0 || err != error(api.ErrBudget) || a.Len() != 64 {
				t.Errorf("Empty(44) with room for %d = %d, %v: %d nodes", room, i, err, a.Len())
			}
		}
		for level := 2; level <= 2+room; level++ {
			if i := empty(t, a, level); a.Level(i) != level || a.Count(i) != 0 {
				t.Errorf("Empty(%d) with room for %d = %d", level, room, i)
			}
		}
		refused(t, a, api.ErrBudget, func() (uint32, error) { return a.Empty(3 + room) })
		refused(t, a, api.ErrArg, func() (uint32, error) { return a.Empty(1) })
		refused(t, a, api.ErrDepth, func() (uint32, error) { return a.Empty(45) })
	}
	a := arena.New(64)
	for f := site.Leaf(1); a.Len() < 64-42; f++ {
		leafOf(t, a, f)
	}
	if i := empty(t, a, 44); a.Len() != 64 || a.Level(i) != 44 {
		t.Errorf("Empty(44) with room for all: %d nodes", a.Len())
	}
}

// An empty node is the one that Join makes of empty kids, whichever comes first.
func TestEmptyAndJoin(t *testing.T) {
	a, b := arena.New(64), arena.New(64)
	i := joined(t, a, 0, 0, 0, 0)
	j := joined(t, a, i, i, i, i)
	if empty(t, a, 3) != i || empty(t, a, 4) != j || a.Len() != 3 {
		t.Errorf("Empty behind Join: %d nodes", a.Len())
	}
	j = empty(t, b, 4)
	i = empty(t, b, 3)
	if joined(t, b, 0, 0, 0, 0) != i || joined(t, b, i, i, i, i) != j || b.Len() != 3 {
		t.Errorf("Join behind Empty: %d nodes", b.Len())
	}
}

func TestNumbersThatAreNotThere(t *testing.T) {
	a := arena.New(100)
	joined(t, a, leafOf(t, a, 7), leafOf(t, a, full), 0, 0)
	for _, b := range []*arena.Arena{a, arena.New(0), filled(t, arena.New(70))} {
		for _, i := range []uint32{uint32(b.Len()), uint32(b.Len()) + 1, 99, 1 << 16, 1 << 31, math.MaxUint32 - 1, math.MaxUint32} {
			if b.Level(i) != -1 || b.Bits(i) != 0 || b.Kids(i) != [4]uint32{} || b.Count(i) != 0 {
				t.Errorf("%d of %d: %d, %x, %v, %d", i, b.Len(), b.Level(i), b.Bits(i), b.Kids(i), b.Count(i))
			}
		}
	}
}

// Full squares: 2 times 4 to the level, as far as these are counted.
func TestCountOfFull(t *testing.T) {
	a := arena.New(1000)
	i := leafOf(t, a, full)
	for level := 2; ; level++ {
		want := uint64(1 << 62)
		if level <= 30 {
			want = 1 << (2*level + 1)
		}
		if a.Level(i) != level || a.Count(i) != want {
			t.Errorf("level %d: %d, not %d", level, a.Count(i), want)
		}
		if level == 44 {
			break
		}
		i = joined(t, a, i, i, i, i)
	}
}

// Just below MostCount, just that many, and just above.
func TestCountAtMostCount(t *testing.T) {
	a := arena.New(10000)
	all, none := leafOf(t, a, full), uint32(0)
	one, but := leafOf(t, a, 1<<31), leafOf(t, a, full-1)
	for a.Level(all) < 30 {
		// Of each level: full; without cells; with one; with all but one.
		but = joined(t, a, all, but, all, all)
		one = joined(t, a, none, none, one, none)
		all, none = joined(t, a, all, all, all, all), joined(t, a, none, none, none, none)
	}
	const full30 = 1 << 61
	if a.Count(all) != full30 || a.Count(but) != full30-1 || a.Count(one) != 1 || a.Count(none) != 0 {
		t.Fatalf("level 30: %d, %d, %d, %d", a.Count(all), a.Count(but), a.Count(one), a.Count(none))
	}
	for _, x := range []struct {
		kids [4]uint32
		want uint64
	}{
		{[4]uint32{none, none, none, all}, 1 << 61},
		{[4]uint32{one, none, none, all}, 1<<61 + 1},
		{[4]uint32{but, but, one, one}, 1 << 62},
		{[4]uint32{but, but, one, none}, 1<<62 - 1},
		{[4]uint32{one, but, but, none}, 1<<62 - 1},
		{[4]uint32{but, all, none, none}, 1<<62 - 1},
		{[4]uint32{all, all, none, none}, 1 << 62},
		{[4]uint32{one, all, all, none}, 1 << 62},
		{[4]uint32{all, one, none, all}, 1 << 62},
		{[4]uint32{all, all, all, none}, 1 << 62},
		{[4]uint32{all, all, all, all}, 1 << 62},
		{[4]uint32{but, but, but, but}, 1 << 62},
	} {
		if n := a.Count(joined(t, a, x.kids[:]...)); n != x.want {
			t.Errorf("Join(%v) has %d cells, not %d", x.kids, n, x.want)
		}
	}
}

// Any calls, one behind the other, held against the chapter's words; nodes that were made stay as they are.
func TestAnyCalls(t *testing.T) {
	r := rand.New(rand.NewSource(31))
	for _, most := range []int{0, 70, 100, 130} {
		for range 6 {
			a, m := arena.New(most), newModel(most)
			for step := range 1200 {
				anyCall(t, r, a, m)
				if step%10 == 0 {
					m.same(t, a)
				}
			}
			m.same(t, a)
		}
	}
}

// anyCall makes one that may change something, of an arena and of its model.
func anyCall(t *testing.T, r *rand.Rand, a *arena.Arena, m *model) {
	t.Helper()
	switch r.Intn(40) {
	case 0:
		n := r.Intn(150) - 5
		want := error(api.ErrBudget)
		if len(m.things) <= max(n, 64) {
			want, m.most = nil, max(n, 64)
		}
		if err := a.SetMost(n); err != want {
			t.Fatalf("SetMost(%d) of %d nodes = %v", n, len(m.things), err)
		}
	case 1:
		level := r.Intn(12)
		i, err := a.Empty(level)
		m.empty(t, a, level, i, err)
	case 2, 3, 4, 5, 6:
		x := thing{level: 2, leaf: site.Leaf(r.Uint32() & r.Uint32() & 0x80000103)}
		w := m.find(x)
		i, err := a.Leaf(x.leaf)
		m.take(t, x, w, i, err)
	default:
		kids := m.anyKids(r)
		x, err := m.join(kids)
		w := want{err: err}
		if err == nil {
			w = m.find(x)
		}
		i, err := a.Join(kids)
		m.take(t, x, w, i, err)
	}
}

// empty holds an answer of Empty against the levels that it should have gone through.
func (m *model) empty(t *testing.T, a *arena.Arena, level int, i uint32, err error) {
	t.Helper()
	if level < 2 {
		if i != 0 || err != error(api.ErrArg) {
			t.Fatalf("Empty(%d) = %d, %v", level, i, err)
		}
		return
	}
	at := uint32(0)
	for l := 3; l <= level; l++ {
		x := thing{level: l, kids: [4]uint32{at, at, at, at}}
		w := m.find(x)
		if w.err != nil {
			m.take(t, x, w, i, err)
			return
		}
		if !w.is {
			// Which number it has is the arena's own choice; it is asked of one that is there.
			number, err := a.Join(x.kids)
			m.take(t, x, w, number, err)
			w.number = number
		}
		at = w.number
	}
	if i != at || err != nil {
		t.Fatalf("Empty(%d) = %d, %v, not %d", level, i, err, at)
	}
}

// squares is the leaves of a node, all of them, one behind the other.
func squares(a *arena.Arena, i uint32) []site.Leaf {
	if a.Level(i) == 2 {
		return []site.Leaf{a.Bits(i)}
	}
	var leaves []site.Leaf
	for _, kid := range a.Kids(i) {
		leaves = append(leaves, squares(a, kid)...)
	}
	return leaves
}

// ONE: nodes of one level are one just if the same cells live in them, whatever way they came to be.
func TestOne(t *testing.T) {
	r := rand.New(rand.NewSource(32))
	a := arena.New(1 << 20)
	seen := map[uint32]struct{}{}
	cells := map[[64]site.Leaf]uint32{}
	for range 3000 {
		leaves := [64]site.Leaf{}
		for range r.Intn(3) {
			leaves[r.Intn(64)] |= 1 << r.Intn(3)
		}
		i := built(t, a, r, leaves[:])
		if a.Level(i) != 5 || !slices.Equal(squares(a, i), leaves[:]) {
			t.Fatalf("%v became %v", leaves, squares(a, i))
		}
		j, ok := cells[leaves]
		_, known := seen[i]
		if ok && i != j || ok != known {
			t.Fatalf("%v is %d, and was %d, %v", leaves, i, j, ok)
		}
		cells[leaves] = i
		seen[i] = struct{}{}
	}
	if len(cells) < 100 || len(cells) > 2900 {
		t.Errorf("%d squares", len(cells))
	}
}

// built is a node of leaves, whose kids are made in any order, with others in between.
func built(t *testing.T, a *arena.Arena, r *rand.Rand, leaves []site.Leaf) uint32 {
	t.Helper()
	if len(leaves) == 1 {
		return leafOf(t, a, leaves[0])
	}
	var kids [4]uint32
	for _, k := range r.Perm(4) {
		if r.Intn(10) == 0 {
			leafOf(t, a, site.Leaf(r.Uint32()))
		}
		quarter := len(leaves) / 4
		kids[k] = built(t, a, r, leaves[k*quarter:(k+1)*quarter])
	}
	return joined(t, a, kids[:]...)
}

// All nodes of many: no two have the same level, and the same leaf, or kids; and kids are of the level below.
func TestOnceAmongMany(t *testing.T) {
	r := rand.New(rand.NewSource(33))
	a := arena.New(20000)
	for range 400 {
		var leaves [64]site.Leaf
		for i := range leaves {
			leaves[i] = site.Leaf(r.Intn(2) * r.Intn(6))
		}
		built(t, a, r, leaves[:])
	}
	seen := map[thing]uint32{}
	for i := range uint32(a.Len()) {
		x := thing{a.Level(i), a.Bits(i), a.Kids(i)}
		if j, ok := seen[x]; ok {
			t.Fatalf("%d and %d are both %v", i, j, x)
		}
		seen[x] = i
		for _, kid := range x.kids {
			if x.level > 2 && a.Level(kid) != x.level-1 {
				t.Fatalf("%d is of level %d, its kid %d of %d", i, x.level, kid, a.Level(kid))
			}
		}
	}
	if a.Len() < 5000 {
		t.Errorf("%d nodes", a.Len())
	}
}

// Arenas have nothing in common, and what one tells is the same behind the same calls.
func TestArenasApart(t *testing.T) {
	told := func(a *arena.Arena) []uint64 {
		r := rand.New(rand.NewSource(34))
		var all []uint64
		for range 40 {
			var leaves [16]site.Leaf
			for i := range leaves {
				leaves[i] = site.Leaf(r.Intn(3))
			}
			i := built(t, a, r, leaves[:])
			all = append(all, uint64(i), uint64(a.Len()), a.Count(i))
		}
		return all
	}
	a, b := arena.New(5000), arena.New(100000)
	first := told(a)
	if b.Len() != 1 || b.Level(1) != -1 {
		t.Errorf("%d nodes of an arena that has made none", b.Len())
	}
	if second := told(b); !slices.Equal(first, second) {
		t.Errorf("%v, and then %v", first, second)
	}
	if again := told(a); again[0] != first[0] || uint64(a.Len()) != first[len(first)-2] {
		t.Errorf("%v, and then %v", first, again)
	}
}

// Kids that are told are the caller's.
func TestKidsAreNewMemory(t *testing.T) {
	a := arena.New(64)
	x := leafOf(t, a, 7)
	kids := [4]uint32{x, 0, 0, x}
	n := joined(t, a, kids[:]...)
	told := a.Kids(n)
	told[1] = x
	kids[0] = 0
	if a.Kids(n) != [4]uint32{x, 0, 0, x} || joined(t, a, x, 0, 0, x) != n {
		t.Errorf("Kids = %v", a.Kids(n))
	}
}

// An arena that New didn't make is as one that may have Least nodes.
func TestArenaThatWasNotMade(t *testing.T) {
	for _, first := range []func(a *arena.Arena) (uint32, error){
		func(a *arena.Arena) (uint32, error) { return a.Leaf(7) },
		func(a *arena.Arena) (uint32, error) { return a.Join([4]uint32{}) },
		func(a *arena.Arena) (uint32, error) { return a.Empty(3) },
	} {
		var a arena.Arena
		if a.Len() != 1 || a.Most() != 64 || a.Level(0) != 2 || a.Bits(0) != 0 || a.Count(0) != 0 || a.Level(1) != -1 {
			t.Errorf("%d of %d nodes", a.Len(), a.Most())
		}
		refused(t, &a, api.ErrArg, func() (uint32, error) { return a.Join([4]uint32{0, 0, 0, 1}) })
		if i, err := first(&a); i == 0 || err != nil || a.Len() != 2 {
			t.Errorf("%d, %v: %d nodes", i, err, a.Len())
		}
		filled(t, &a)
		refused(t, &a, api.ErrBudget, func() (uint32, error) { return a.Leaf(full) })
		if err := a.SetMost(65); err != nil || a.Most() != 65 || leafOf(t, &a, full) == 0 {
			t.Errorf("SetMost = %v: %d of %d nodes", err, a.Len(), a.Most())
		}
	}
}
