package turn_test

import (
	"math/rand"
	"testing"

	"honeycomb/api"
	"honeycomb/arena"
	"honeycomb/axis"
	"honeycomb/cell"
	"honeycomb/set"
	"honeycomb/turn"
)

// question is a call that is asked of an arena with the nodes that it needs, and no others, and the set that it tells.
type question struct {
	prepare func(a *arena.Arena) func() (uint32, error)
	want    set.Set
}

// arena is one with room for so many more nodes.
func (q question) arena(t *testing.T, room int) (*arena.Arena, func() (uint32, error)) {
	t.Helper()
	a := arena.New(1 << 20)
	call := q.prepare(a)
	leave(t, a, room)
	return a, call
}

// made is how many nodes are made, if there is room for all.
func (q question) made(t *testing.T) int {
	t.Helper()
	a, call := q.arena(t, 1<<18)
	n := a.Len()
	answered(t)(call())
	return a.Len() - n
}

// eachRoom asks with room for no node, for one, and so on: it is answered just if that is enough for those that are made.
// Those that were made beside an error stay: then the others need no more room than is left.
func (q question) eachRoom(t *testing.T) {
	t.Helper()
	made := q.made(t)
	for room := 0; room <= made+1; room += 1 + made/50 {
		a, call := q.arena(t, room)
		i, err := call()
		if room < made {
			if i != 0 || err != error(api.ErrBudget) || a.Len() != a.Most() {
				t.Fatalf("with room for %d of %d: %d, %v, %d of %d nodes", room, made, i, err, a.Len(), a.Most())
			}
			leave(t, a, made-room)
			i, err = call()
		}
		if err != nil {
			t.Fatalf("with room for %d of %d: %v", room, made, err)
		}
		leave(t, a, 0)
		if j, err := call(); j != i || err != nil {
			t.Fatalf("again, without room: %d, %v, not %d", j, err, i)
		}
		leave(t, a, 1<<16)
		is(t, a, q.want)(i, nil)
	}
	a, call := q.arena(t, made)
	i, err := call()
	if err != nil || a.Len() != a.Most() {
		t.Fatalf("with room for just %d: %v, %d of %d nodes", made, err, a.Len(), a.Most())
	}
	leave(t, a, 1<<16)
	is(t, a, q.want)(i, nil)
}

// few are sets of few cells.
func few(r *rand.Rand, l cell.Lattice) []set.Set {
	sets := []set.Set{nil, set.Of(at(0, 0, 0)), set.Of(at(-3, 2, 0), at(1, -4, 0))}
	for _, away := range []int64{3, 9, 500, page / 4} {
		sets = append(sets, some(r, l, 1+r.Intn(8), away))
	}
	return sets
}

func TestEachRoomOfTurnAndShift(t *testing.T) {
	r := rand.New(rand.NewSource(21))
	for _, l := range lattices {
		for _, s := range few(r, l) {
			for _, level := range []int{3, 9, 44} {
				o, by := axis.Operator(r.Intn(12)), somewhere(r, 1+r.Int63n(page/4))
				question{func(a *arena.Arena) func() (uint32, error) {
					root := wide(t, a, s, level)
					return func() (uint32, error) { return turn.Turn(a, root, l, o) }
				}, turned(l, o, s)}.eachRoom(t)
				question{func(a *arena.Arena) func() (uint32, error) {
					root := wide(t, a, s, level)
					return func() (uint32, error) { return turn.Shift(a, root, by) }
				}, moved(s, by)}.eachRoom(t)
			}
		}
	}
}

func TestEachRoomOfMix(t *testing.T) {
	r := rand.New(rand.NewSource(22))
	sets := few(r, api.Edge)
	for _, s := range sets {
		for _, u := range append(sets, s) {
			for how := range ways {
				first, second := 3+r.Intn(42)*r.Intn(2), 3+r.Intn(42)*r.Intn(2)
				question{func(a *arena.Arena) func() (uint32, error) {
					x, y := wide(t, a, s, first), wide(t, a, u, second)
					return func() (uint32, error) { return turn.Mix(a, x, y, how) }
				}, mixed(how, s, u)}.eachRoom(t)
			}
		}
	}
}

// No more nodes are made than layer 13 names for the answer, and layer 14 for what is around it.
func TestRoom(t *testing.T) {
	r := rand.New(rand.NewSource(23))
	for range 300 {
		l := lattices[r.Intn(3)]
		s, u := some(r, l, r.Intn(20), 1+r.Int63n(1<<r.Intn(38))), some(r, l, r.Intn(20), 1+r.Int63n(1<<r.Intn(38)))
		o, by, how := axis.Operator(r.Intn(12)), somewhere(r, page/4), 1+r.Intn(4)
		a := arena.New(1 << 20)
		x, y := wide(t, a, s, 3+r.Intn(42)), wide(t, a, u, 3+r.Intn(42))
		for _, c := range []struct {
			call func() (uint32, error)
			want set.Set
			more int
		}{
			{func() (uint32, error) { return turn.Turn(a, x, l, o) }, turned(l, o, s), 64},
			{func() (uint32, error) { return turn.Shift(a, x, by) }, moved(s, by), 64},
			{func() (uint32, error) { return turn.Mix(a, x, y, how) }, mixed(how, s, u), 64 + 44*8},
		} {
			level := max(a.Level(x), a.Level(y))
			if c.more == 64 {
				level = leastLevel(c.want)
			}
			leave(t, a, len(c.want)*level+c.more)
			i, err := c.call()
			leave(t, a, 1<<17)
			is(t, a, c.want)(i, err)
		}
	}
}

// leastLevel is that of a root that has a set's cells.
func leastLevel(s set.Set) int {
	level := 3
	for _, c := range s {
		for h := halfOf(level); c.At.A < -h || c.At.A >= h || c.At.B < -h || c.At.B >= h; h *= 2 {
			level++
		}
	}
	return level
}

// What the answer wants is there already: it needs no room, whatever is beside it.
func TestWithNoRoom(t *testing.T) {
	r := rand.New(rand.NewSource(24))
	for range 200 {
		a := arena.New(1 << 16)
		s, u := some(r, api.Edge, 1+r.Intn(9), 3), some(r, api.Edge, 1+r.Intn(9), 3)
		x, y := built(t, a, s), built(t, a, u)
		for how := range ways {
			built(t, a, mixed(how, s, u))
		}
		built(t, a, turned(api.Edge, 1, s))
		built(t, a, moved(s, axis.Point{A: 1}))
		leave(t, a, 0)
		for how := range ways {
			is(t, a, mixed(how, s, u))(turn.Mix(a, x, y, how))
		}
		is(t, a, turned(api.Edge, 1, s))(turn.Turn(a, x, api.Edge, 1))
		is(t, a, moved(s, axis.Point{A: 1}))(turn.Shift(a, x, axis.Point{A: 1}))
	}
}

// Any calls one behind the other, with little room: what is told is right, or there is ErrBudget and no room is left.
func TestAnyCalls(t *testing.T) {
	refusals := 0
	for seed := range int64(60) {
		r := rand.New(rand.NewSource(300 + seed))
		l := lattices[seed%3]
		a := arena.New(1 << 20)
		for range 40 {
			s, u := some(r, l, r.Intn(9), 1+r.Int63n(40)), some(r, l, r.Intn(9), 1+r.Int63n(40))
			leave(t, a, 1<<14)
			x, y := wide(t, a, s, 3+r.Intn(9)), wide(t, a, u, 3+r.Intn(9))
			leave(t, a, r.Intn(60))
			var want set.Set
			var i uint32
			var err error
			switch o, by, how := axis.Operator(r.Intn(12)), somewhere(r, 50), 1+r.Intn(4); r.Intn(3) {
			case 0:
				want = turned(l, o, s)
				i, err = turn.Turn(a, x, l, o)
			case 1:
				want = moved(s, by)
				i, err = turn.Shift(a, x, by)
			default:
				want = mixed(how, s, u)
				i, err = turn.Mix(a, x, y, how)
			}
			if err != nil {
				refusals++
				if i != 0 || err != error(api.ErrBudget) || a.Len() != a.Most() {
					t.Fatalf("%d, %v, %d of %d nodes", i, err, a.Len(), a.Most())
				}
				continue
			}
			leave(t, a, 1<<14)
			is(t, a, want)(i, nil)
		}
	}
	if refusals == 0 {
		t.Error("there was always room")
	}
}

// An arena that may have as few nodes as any.
func TestLeastArena(t *testing.T) {
	a := arena.New(0)
	s := set.Of(at(0, 0, 0), at(1, 0, 0))
	root := built(t, a, s)
	is(t, a, set.Of(at(0, 0, 0), at(0, 1, 0)))(turn.Turn(a, root, api.Hex, 1))
	is(t, a, set.Of(at(1, 0, 0), at(2, 0, 0)))(turn.Shift(a, root, axis.Point{A: 1}))
	is(t, a, nil)(turn.Mix(a, root, root, turn.Minus))
}
