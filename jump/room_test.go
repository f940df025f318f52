package jump_test

import (
	"math/rand"
	"testing"

	"honeycomb/api"
	"honeycomb/arena"
	"honeycomb/cell"
	"honeycomb/jump"
	"honeycomb/life"
	"honeycomb/rule"
	"honeycomb/set"
	"honeycomb/table"
)

// question is a root of a level, with these cells, of which a leap is asked for.
type question struct {
	table      table.Table
	live       set.Set
	level, exp int
}

// life is one with nothing but the nodes of the root, and those that fill an arena of the least size, with room for so many more.
func (q question) life(t *testing.T, room int) (*life.Life, uint32) {
	t.Helper()
	l := living(t, q.table)
	root := wide(t, l.Arena, q.live, q.level)
	leave(t, l.Arena, room)
	return l, root
}

// roomOf is what the chapter names, where at most p cells live.
func (q question) roomOf(p int) int {
	m := max(leastLevel(q.live), q.exp+1) + 2
	return 4*p*m*(1<<q.exp+1) + 512
}

// most is how many cells live at most in any of the generations of a leap.
func (q question) most(t *testing.T) int {
	t.Helper()
	s, p := q.live, len(q.live)
	for range 1 << q.exp {
		s = stepped(t, q.table, s, 1)
		p = max(p, len(s))
	}
	return p
}

// right holds an answer against layer 8, where there is room for that.
func (q question) right(t *testing.T, l *life.Life, i uint32) {
	t.Helper()
	leave(t, l.Arena, 1<<20)
	is(t, l, stepped(t, q.table, q.live, 1<<q.exp))(i, nil)
}

// made is how many nodes are made, if there is room for all.
func (q question) made(t *testing.T) int {
	t.Helper()
	l, root := q.life(t, 1<<20)
	n := l.Len()
	answered(t)(jump.Leap(l, root, q.exp))
	return l.Len() - n
}

// inRoom asks with room for so many nodes more than there are: it is answered just if that is enough for those that are made, and again, if there is more room then.
func (q question) inRoom(t *testing.T, room, made int) {
	t.Helper()
	l, root := q.life(t, room)
	i, err := jump.Leap(l, root, q.exp)
	if room < made {
		if i != 0 || err != error(api.ErrBudget) || l.Len() != l.Most() {
			t.Fatalf("%s: %v, of level %d by %d, with room for %d of %d: %d, %v, %d of %d nodes", rule.Text(q.table), q.live, q.level, q.exp, room, made, i, err, l.Len(), l.Most())
		}
		leave(t, l.Arena, made-room)
		i, err = jump.Leap(l, root, q.exp)
	}
	if err != nil {
		t.Fatalf("%s: %v, of level %d by %d, with room for %d of %d: %v", rule.Text(q.table), q.live, q.level, q.exp, room, made, err)
	}
	q.right(t, l, i)
}

// few are sets of few cells in a root of a level: spread so that they share no nodes, and close by each other around the middle, where they are in most of the squares that overlap.
func few(r *rand.Rand, l cell.Lattice, level int) []set.Set {
	h := min(halfOf(level), 1<<39)
	half := l.Halves() - 1
	sets := []set.Set{
		nil, set.Of(at(0, 0, 0)), set.Of(at(-1, -1, half)), set.Of(at(h/2-1, -h/2, 0)), set.Of(at(h-1, h-1, half)),
		set.Of(at(0, 0, 0), at(-1, 0, half), at(0, -1, 0), at(-1, -1, half)),
		set.Of(at(h/2, h/2, 0), at(-h/2-1, h/2, 0), at(h/2, -h/2-1, half), at(-h/2-1, -h/2-1, half)),
	}
	for _, n := range []int{2, 5, 16} {
		sets = append(sets, some(r, l, n, h-1), some(r, l, n, 3))
	}
	return sets
}

// No more nodes are made than the chapter names, and with room for just these it is answered.
func TestRoom(t *testing.T) {
	r := rand.New(rand.NewSource(31))
	for _, text := range []string{"B/S0123456H", "B2/S34H", "B1/S2H", "B/S0123E", "B1/S2:B2/S3E", "B1/S12V", "B/S0123456789abcV"} {
		x := parsed(t, text)
		for _, level := range []int{3, 4, 5, 6, 9, 20, 40} {
			for _, s := range few(r, x.Lattice, level) {
				for exp := range 4 {
					for _, above := range []int{level, level + 1, 44} {
						q := question{x, s, above, exp}
						room, made := q.roomOf(q.most(t)), q.made(t)
						if made > room {
							t.Fatalf("%s: %v, of level %d by %d: %d nodes were made, and there is to be room for %d", text, s, above, exp, made, room)
						}
						if above == level {
							q.inRoom(t, room, made)
							q.inRoom(t, made, made)
						}
					}
				}
			}
		}
	}
}

// By a rule by which all stay as many live in all generations: so the room is known of each number of them, and of each level.
func TestRoomOfMany(t *testing.T) {
	r := rand.New(rand.NewSource(32))
	for _, text := range []string{"B/S0123456H", "B/S0123456789abcV"} {
		x := parsed(t, text)
		for _, level := range []int{3, 4, 5, 6, 8, 12, 23, 41, 42} {
			for _, s := range few(r, x.Lattice, level) {
				for _, exp := range []int{0, 1, 4, level / 2, level, 39, 41} {
					exp = min(exp, 41)
					for _, above := range []int{level, min(level+2, 44), 44} {
						q := question{x, s, above, exp}
						l, root := q.life(t, q.roomOf(len(s)))
						i, err := jump.Leap(l, root, exp)
						if err != nil || l.Count(i) != uint64(len(s)) {
							t.Fatalf("%s: %v, of level %d by %d: %d live, %v", text, s, above, exp, l.Count(i), err)
						}
					}
				}
			}
		}
	}
}

// With the least room of all: 512, and what a single cell that doesn't change is worth.
func TestRoomOfOneCell(t *testing.T) {
	x := parsed(t, "B/S0H")
	for level := 3; level <= 42; level++ {
		h := halfOf(level)
		for _, s := range []set.Set{set.Of(at(h-1, 0, 0)), set.Of(at(-h, -h, 0)), set.Of(at(-1, h-1, 0))} {
			for exp := range 42 {
				for _, above := range []int{level, 44} {
					q := question{x, s, above, exp}
					l, root := q.life(t, q.roomOf(1))
					is := l.Len()
					if i, err := jump.Leap(l, root, exp); err != nil || l.Count(i) != 1 || l.Level(i) != level {
						t.Fatalf("%v, of level %d by %d: %d nodes were made, %v", s, above, exp, l.Len()-is, err)
					}
				}
			}
		}
	}
}

// Where the squares that are wanted aren't there yet, nor any without cells: of a full one, which has none.
func TestRoomOfAFullSquare(t *testing.T) {
	for level := 3; level <= 29; level++ {
		for _, exp := range []int{0, 1, 3} {
			l := alive(t, "B/S0123456H")
			root := full(t, l.Arena, level, 0x55555555)
			ahead := l.Len()
			if i, err := jump.Leap(l, root, exp); err != nil || i != root {
				t.Fatalf("of all of level %d: %d, %v", level, i, err)
			}
			if made := l.Len() - ahead; made > 512 {
				t.Errorf("of all of level %d by %d: %d nodes were made", level, exp, made)
			}
		}
	}
}

// With room for no node, one, and so on, until it is answered.
func TestEachRoom(t *testing.T) {
	r := rand.New(rand.NewSource(33))
	for _, text := range []string{"B1/S2H", "B1/S2E", "B1/S2V", "B/S0H"} {
		x := parsed(t, text)
		for level := 3; level <= 6; level++ {
			for _, s := range []set.Set{set.Of(at(0, 0, 0)), set.Of(at(-3, 2, 0), at(1, -4, 0)), some(r, x.Lattice, 4, halfOf(level)-1)} {
				for _, exp := range []int{0, 2} {
					q := question{x, s, level + exp, exp}
					made := q.made(t)
					for room := 0; room <= made; room += 1 + made/60 {
						q.inRoom(t, room, made)
					}
				}
			}
		}
	}
}

// A jump needs no more room than its leaps do, one behind the other.
func TestRoomOfAJump(t *testing.T) {
	r := rand.New(rand.NewSource(34))
	for _, text := range []string{"B2/S34H", "B1/S2H", "B12/S2E", "B1/S12V", "B/S0123456H"} {
		x := parsed(t, text)
		for range 12 {
			s, n := some(r, x.Lattice, 1+r.Intn(6), 9), 1+r.Intn(12)
			// What its leaps make, each of what the one ahead came to.
			l := living(t, x)
			root := built(t, l.Arena, s)
			crowded(t, l.Arena)
			ahead, then := l.Len(), s
			at := root
			for exp := range 4 {
				if n>>exp&1 == 1 {
					room := question{x, then, 3, exp}
					before := l.Len()
					at = answered(t)(jump.Leap(l, at, exp))
					if made := l.Len() - before; made > room.roomOf(room.most(t)) {
						t.Fatalf("%s: %v by %d: %d nodes were made", text, then, exp, made)
					}
					then = stepped(t, x, then, 1<<exp)
				}
			}
			made := l.Len() - ahead
			for _, room := range []int{made, made - 1, made / 2, 0} {
				l := living(t, x)
				root := built(t, l.Arena, s)
				leave(t, l.Arena, max(room, 0))
				i, err := jump.Jump(l, root, n)
				switch {
				case room >= made:
					leave(t, l.Arena, 1<<20)
					is(t, l, then)(i, err)
				case i != 0 || err != error(api.ErrBudget):
					t.Fatalf("%s: %v by %d, with room for %d of %d: %d, %v", text, s, n, room, made, i, err)
				}
			}
		}
	}
}

// What was asked before is told without room, also behind Forget.
func TestWithNoRoom(t *testing.T) {
	r := rand.New(rand.NewSource(35))
	for _, text := range rules {
		l := alive(t, text)
		s := some(r, l.Kernel().Table().Lattice, 9, 6)
		root := wide(t, l.Arena, s, 5)
		var jumps, leaps []uint32
		for n := range 8 {
			jumps = append(jumps, answered(t)(jump.Jump(l, root, n)))
			leaps = append(leaps, answered(t)(jump.Leap(l, root, n/2)))
		}
		_, last, n, err := shown(l, root, 7)
		leave(t, l.Arena, 0)
		for range 2 {
			for n := range 8 {
				if i, err := jump.Jump(l, root, n); i != jumps[n] || err != nil {
					t.Errorf("%s: Jump by %d = %d, %v, not %d", text, n, i, err, jumps[n])
				}
				if i, err := jump.Leap(l, root, n/2); i != leaps[n] || err != nil {
					t.Errorf("%s: Leap by %d = %d, %v, not %d", text, n/2, i, err, leaps[n])
				}
			}
			if _, again, m, e := shown(l, root, 7); again != last || m != n || e != nil || err != nil {
				t.Errorf("%s: Steps = %d, %d, %v, not %d", text, again, m, e, last)
			}
			l.Forget()
		}
	}
}

// Trim of the root may want a node that isn't there, too.
func TestNoRoomForTrim(t *testing.T) {
	l := alive(t, "B/S0H")
	a := l.Arena
	// Node by node, so that the root below isn't there.
	leaf := answered(t)(a.Leaf(1 << 30))
	none := answered(t)(a.Empty(3))
	corner := answered(t)(a.Join([4]uint32{0, 0, 0, leaf}))
	root := answered(t)(a.Join([4]uint32{corner, none, none, none}))
	leave(t, a, 0)
	for n := range 3 {
		refused(t, api.ErrBudget)(jump.Jump(l, root, n))
		refused(t, api.ErrBudget)(jump.Leap(l, root, n))
	}
	none2 := func(uint32) bool { t.Error("a root was shown"); return true }
	if i, n, err := jump.Steps(l, root, none2); i != 0 || n != 0 || err != error(api.ErrBudget) {
		t.Errorf("Steps = %d, %d, %v", i, n, err)
	}
	leave(t, a, 1)
	i := answered(t)(jump.Jump(l, root, 0))
	if a.Level(i) != 3 || a.Kids(i) != [4]uint32{leaf, 0, 0, 0} || a.Len() != a.Most() {
		t.Errorf("Jump by 0 = %d, with %v", i, a.Kids(i))
	}
}

// Any calls one behind the other, with little room: what is told is right, or there is ErrBudget, where there is less room than the chapter names.
func TestAnyCalls(t *testing.T) {
	for seed := range int64(45) {
		r := rand.New(rand.NewSource(200 + seed))
		x := anyTable(r, cell.Lattice(seed%3+1))
		l := living(t, x)
		for range 30 {
			q := question{x, some(r, x.Lattice, r.Intn(6), 1+r.Int63n(20)), 3 + r.Intn(7), r.Intn(4)}
			leave(t, l.Arena, 1<<16)
			root := wide(t, l.Arena, q.live, q.level)
			leave(t, l.Arena, r.Intn(40*(1+r.Intn(40))))
			before := l.Len()
			switch r.Intn(6) {
			case 0:
				l.Forget()
			case 1:
				unchanged(t, l, func() { refused(t, api.ErrArg)(jump.Leap(l, uint32(l.Len()), q.exp)) })
				unchanged(t, l, func() { refused(t, api.ErrArg)(jump.Jump(l, root, -1)) })
			}
			i, err := jump.Leap(l, root, q.exp)
			if err == nil {
				q.right(t, l, i)
			} else if i != 0 || err != error(api.ErrBudget) || l.Len() != l.Most() || l.Most()-before >= q.roomOf(q.most(t)) {
				t.Fatalf("%d, %v: %d nodes, ahead %d, of %d", i, err, l.Len(), before, l.Most())
			}
		}
	}
}

// An arena that may have as few nodes as any.
func TestLeastArena(t *testing.T) {
	q := question{table: parsed(t, "B2/SH"), live: set.Of(at(0, 0, 0), at(1, 0, 0))}
	k := living(t, q.table).Kernel()
	l := life.New(arena.New(0), k)
	root := built(t, l.Arena, q.live)
	i := answered(t)(jump.Leap(l, root, 0))
	q.right(t, l, i)
}
