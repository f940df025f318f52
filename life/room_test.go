package life_test

import (
	"math/rand"
	"testing"

	"honeycomb/api"
	"honeycomb/arena"
	"honeycomb/axis"
	"honeycomb/life"
	"honeycomb/rule"
	"honeycomb/set"
	"honeycomb/table"
)

// question is a result that is asked for: of a root with these cells.
type question struct {
	table      table.Table
	live       set.Set
	level, exp int
}

// life is one with nothing but the nodes of the root, and those that fill an arena of the least size, with room for so many more.
func (q question) life(t *testing.T, room int) (*life.Life, uint32) {
	t.Helper()
	l := life.New(arena.New(1<<22), kernel(t, q.table))
	root := laid(t, l.Arena, q.level, q.live)
	leave(t, l.Arena, room)
	return l, root
}

// room is what the chapter names.
func (q question) room(t *testing.T) int {
	t.Helper()
	return roomOf(most(t, q.table, q.live, q.level, q.exp), q.level, q.exp)
}

// right holds an answer against layer 8, where there is room for that.
func (q question) right(t *testing.T, l *life.Life, i uint32) {
	t.Helper()
	leave(t, l.Arena, 1<<20)
	if want := laid(t, l.Arena, q.level-1, stepped(t, q.table, q.live, 1<<q.exp)); i != want {
		t.Fatalf("%s: Result of %v, of level %d by %d = %d, not %d", rule.Text(q.table), q.live, q.level, q.exp, i, want)
	}
}

// made is how many nodes are made, if there is room for all.
func (q question) made(t *testing.T) int {
	t.Helper()
	l, root := q.life(t, 1<<20)
	n := l.Len()
	q.right(t, l, answered(t)(l.Result(root, q.exp)))
	if again, err := l.Result(root, q.exp); err != nil {
		t.Fatalf("again: %d, %v", again, err)
	}
	l, root = q.life(t, 1<<20)
	answered(t)(l.Result(root, q.exp))
	return l.Len() - n
}

// inRoom asks with room for so many nodes more than there are: it is answered just if that is enough for those that are made, and again, if there is more room then.
func (q question) inRoom(t *testing.T, room, made int) {
	t.Helper()
	l, root := q.life(t, room)
	if room >= made {
		i, err := l.Result(root, q.exp)
		if err != nil {
			t.Fatalf("%s: %v, of level %d by %d, with room for %d of %d: %v", rule.Text(q.table), q.live, q.level, q.exp, room, made, err)
		}
		q.right(t, l, i)
		return
	}
	refused(t, l, api.ErrBudget, root, q.exp)
	refused(t, l, api.ErrBudget, root, q.exp)
	leave(t, l.Arena, made-room)
	i, err := l.Result(root, q.exp)
	if err != nil || l.Known() == 0 {
		t.Fatalf("with more room: %d, %v, %d known", i, err, l.Known())
	}
	q.right(t, l, i)
}

// few are sets of few cells in a root of a level: spread so that they share no nodes, and close by each other at the corners of nodes, where they are in most of those that overlap.
func few(r *rand.Rand, x table.Table, level int) []set.Set {
	h := min(halfOf(level), 1<<39)
	half := x.Lattice.Halves() - 1
	sets := []set.Set{
		nil, set.Of(at(0, 0, 0)), set.Of(at(-1, -1, half)), set.Of(at(h/2-1, -h/2, 0)), set.Of(at(h-1, h-1, half)),
		set.Of(at(0, 0, 0), at(-1, 0, half), at(0, -1, 0), at(-1, -1, half)),
		set.Of(at(h/2, h/2, 0), at(-h/2-1, h/2, 0), at(h/2, -h/2-1, half), at(-h/2-1, -h/2-1, half)),
	}
	for _, n := range []int{2, 5, 16} {
		var cells set.Set
		for range n {
			cells = cells.Put(at(r.Int63n(2*h)-h, r.Int63n(2*h)-h, r.Intn(half+1)), true)
		}
		sets = append(sets, cells, some(r, x.Lattice, n, 3))
	}
	// A grid whose cells are as far apart as leaves, and one as far apart as greater squares.
	for _, far := range []int64{4, h / 4} {
		var cells set.Set
		for a := int64(-2); a < 2; a++ {
			for b := int64(-2); b < 2; b++ {
				if c := at(a*far+far/2, b*far+far/2-1, 0); within(c.At, axis.Point{A: -h, B: -h}, 2*h) {
					cells = cells.Put(c, true)
				}
			}
		}
		sets = append(sets, cells)
	}
	return sets
}

// No more nodes are made than the chapter names, and with room for just these it is answered.
func TestRoom(t *testing.T) {
	r := rand.New(rand.NewSource(21))
	for _, text := range []string{"B/S0123456H", "B2/S34H", "B1/S2H", "B/S0123E", "B1/S2:B2/S3E", "B1/S12V", "B/S0123456789abcV"} {
		x := parsed(t, text)
		for _, level := range []int{3, 4, 5, 6, 9, 20, 40} {
			for _, s := range few(r, x, level) {
				for _, exp := range []int{0, 1, 2, 3} {
					if exp > level-2 {
						break
					}
					q := question{x, s, level, exp}
					room, made := q.room(t), q.made(t)
					if made > room {
						t.Fatalf("%s: %v, of level %d by %d: %d nodes were made, and there is to be room for %d", text, s, level, exp, made, room)
					}
					q.inRoom(t, room, made)
				}
			}
		}
	}
}

// By a rule by which all stay as many live in all generations: so the room is known of each level and each time.
func TestRoomOfGreatLevels(t *testing.T) {
	r := rand.New(rand.NewSource(22))
	for _, text := range []string{"B/S0123456H", "B/S0123456789abcV"} {
		x := parsed(t, text)
		for _, level := range []int{3, 4, 5, 6, 7, 8, 12, 23, 40, 43, 44} {
			for _, s := range few(r, x, level) {
				for _, exp := range []int{0, 1, level / 2, level - 3, level - 2} {
					if exp < 0 || exp > level-2 {
						continue
					}
					l, root := question{x, s, level, exp}.life(t, roomOf(len(s), level, exp))
					if i, err := l.Result(root, exp); err != nil || l.Count(i) != uint64(len(part(s, level-1))) {
						t.Fatalf("%s: %v, of level %d by %d: %d live, %v", text, s, level, exp, l.Count(i), err)
					}
				}
			}
		}
	}
}

// Of no cells 64 nodes are enough, whatever the level, and the time.
func TestRoomOfNoCells(t *testing.T) {
	for level := 3; level <= 44; level++ {
		for exp := 0; exp <= level-2; exp++ {
			q := question{parsed(t, "B2/S34H"), nil, level, exp}
			l, root := q.life(t, 64)
			if i := answered(t)(l.Result(root, exp)); l.Level(i) != level-1 || l.Count(i) != 0 {
				t.Fatalf("Result of none of level %d by %d: %d live", level, exp, l.Count(i))
			}
		}
	}
}

// With room for no node, one, and so on, until it is answered.
func TestEachRoom(t *testing.T) {
	r := rand.New(rand.NewSource(23))
	for _, text := range lattices {
		x := parsed(t, text)
		for level := 3; level <= 6; level++ {
			for _, s := range []set.Set{set.Of(at(0, 0, 0)), set.Of(at(-3, 2, 0), at(1, -4, 0)), some(r, x.Lattice, 4, halfOf(level)-1)} {
				for _, exp := range []int{0, level / 2, level - 2} {
					q := question{x, s, level, min(exp, level-2)}
					made := q.made(t)
					for room := 0; room <= made; room += 1 + made/100 {
						q.inRoom(t, room, made)
					}
				}
			}
		}
	}
}

// With as many nodes as there may be: what was asked is told, also behind Forget, and so is what others made; and what isn't there is ErrBudget.
func TestWithNoRoom(t *testing.T) {
	r := rand.New(rand.NewSource(24))
	for _, text := range rules {
		x := parsed(t, text)
		for level := 3; level <= 7; level++ {
			l := life.New(arena.New(1<<22), kernel(t, x))
			s := some(r, x.Lattice, 20, min(halfOf(level), 8)-1)
			root := laid(t, l.Arena, level, s)
			other := laid(t, l.Arena, level, set.Of(at(-1, 1, 0), at(1, 0, 0), at(0, 0, 0), at(0, -2, 0), at(2, 1, 0)))
			results := holdsAll(t, l, s, level)
			leave(t, l.Arena, 0)
			for range 2 {
				for exp, want := range results {
					if i, err := l.Result(root, exp); i != want || err != nil {
						t.Fatalf("%s: without room: %d, %v, not %d", text, i, err, want)
					}
				}
				l.Forget()
			}
			// Of another life of that arena nothing is known, but all nodes are there.
			m := life.New(l.Arena, l.Kernel())
			if i, err := m.Result(root, level-2); i != results[level-2] || err != nil {
				t.Errorf("%s: of another life: %d, %v, not %d", text, i, err, results[level-2])
			}
			if level > 3 {
				if i, err := l.Result(other, 0); err == nil {
					q := question{x, set.Of(at(-1, 1, 0), at(1, 0, 0), at(0, 0, 0), at(0, -2, 0), at(2, 1, 0)), level, 0}
					q.right(t, l, i)
				} else if i != 0 || err != error(api.ErrBudget) {
					t.Errorf("%s: %d, %v", text, i, err)
				}
			}
		}
	}
}

// What there is no room for is ErrBudget, what is there isn't: of four leaves the one in the middle.
func TestNoRoomForALeaf(t *testing.T) {
	l := alive(t, "B/S0123456H")
	crowded(t, l.Arena)
	root, same := laid(t, l.Arena, 3, set.Of(at(0, 0, 0))), laid(t, l.Arena, 3, set.Of(at(0, 0, 0), at(-4, -4, 0), at(3, 3, 0)))
	leave(t, l.Arena, 0)
	refused(t, l, api.ErrBudget, root, 0)
	refused(t, l, api.ErrBudget, root, 1)
	leave(t, l.Arena, 1)
	i := answered(t)(l.Result(root, 1))
	if f := l.Bits(i); f != 1<<20 || l.Len() != l.Most() {
		t.Errorf("Result = %x, with %d of %d nodes", f, l.Len(), l.Most())
	}
	for exp := range 2 {
		if j, err := l.Result(same, exp); j != i || err != nil {
			t.Errorf("Result = %d, %v, not %d", j, err, i)
		}
	}
}

// Without room for a node without cells there is none, and those below it that were made stay.
func TestNoRoomForNone(t *testing.T) {
	l := alive(t, "B2/S34H")
	crowded(t, l.Arena)
	top := answered(t)(l.Leaf(1))
	for l.Level(top) < 12 {
		top = answered(t)(l.Join([4]uint32{top, top, top, top}))
	}
	// By this rule none of these, which are far from each other, lives on.
	leave(t, l.Arena, 3)
	refused(t, l, api.ErrBudget, top, 3)
	if l.Len() != l.Most() {
		t.Errorf("%d of %d nodes", l.Len(), l.Most())
	}
	leave(t, l.Arena, 64)
	if i := answered(t)(l.Result(top, 3)); l.Count(i) != 0 || l.Level(i) != 11 {
		t.Errorf("Result: %d live", l.Count(i))
	}
}

// Beside an error no more is known than was, and that is still known.
func TestKnownBesideAnError(t *testing.T) {
	r := rand.New(rand.NewSource(25))
	l := alive(t, "B2/S34H")
	s := some(r, api.Hex, 60, 31)
	small, great := laid(t, l.Arena, 5, s), laid(t, l.Arena, 9, s)
	want := answered(t)(l.Result(small, 2))
	known := l.Known()
	leave(t, l.Arena, 40)
	refused(t, l, api.ErrBudget, great, 7)
	refused(t, l, api.ErrArg, great, 8)
	if i, err := l.Result(small, 2); i != want || err != nil || l.Known() != known {
		t.Errorf("Result = %d, %v, not %d; %d known, not %d", i, err, want, l.Known(), known)
	}
	leave(t, l.Arena, 1<<20)
	holds(t, l, part(s, 9), 9, 4)
	if l.Known() <= known {
		t.Errorf("%d known, not more than %d", l.Known(), known)
	}
	// Nothing of an earlier error goes behind a later one.
	known = l.Known()
	leave(t, l.Arena, 0)
	refused(t, l, api.ErrBudget, great, 7)
	if l.Known() != known {
		t.Errorf("%d known, not %d", l.Known(), known)
	}
}

// Any calls one behind the other, with little room: what is told is right, or there is ErrBudget, where there is less room than the chapter names.
func TestAnyCalls(t *testing.T) {
	for seed := range int64(60) {
		r := rand.New(rand.NewSource(100 + seed))
		x := anyTable(r, []table.Table{parsed(t, "B/SH"), parsed(t, "B/SE"), parsed(t, "B/SV")}[seed%3].Lattice)
		l := life.New(arena.New(1<<20), kernel(t, x))
		asked := map[uint32]struct{}{} // each root is asked for one time alone
		for range 40 {
			level := 3 + r.Intn(4)
			q := question{x, some(r, x.Lattice, r.Intn(6), halfOf(level)-1), level, r.Intn(level - 1)}
			leave(t, l.Arena, 1<<16)
			root := laid(t, l.Arena, level, q.live)
			leave(t, l.Arena, r.Intn(40*(1+r.Intn(20))))
			before, known := l.Len(), l.Known()
			switch r.Intn(8) {
			case 0:
				l.Forget()
				clear(asked)
				known = 0
			case 1:
				refused(t, l, api.ErrArg, root, level-1)
				refused(t, l, api.ErrArg, uint32(l.Len()), 0)
			}
			i, err := l.Result(root, q.exp)
			if err == nil {
				asked[root] = struct{}{}
				q.right(t, l, i)
			} else if i != 0 || err != error(api.ErrBudget) || l.Len() != l.Most() || l.Most()-before >= q.room(t) {
				t.Fatalf("%d, %v: %d nodes, ahead %d, of %d", i, err, l.Len(), before, l.Most())
			}
			if l.Known() < max(known, len(asked)) || err != nil && l.Known() != known {
				t.Fatalf("%d known, ahead %d, and %d were asked", l.Known(), known, len(asked))
			}
		}
	}
}
