package jump_test

import (
	"math/rand"
	"slices"
	"testing"

	"honeycomb/api"
	"honeycomb/jump"
	"honeycomb/life"
	"honeycomb/set"
)

// shown is what Steps tells, and which roots it shows, to one that wants to see so many of them.
func shown(l *life.Life, root uint32, most int) (roots []uint32, last uint32, n int, err error) {
	last, n, err = jump.Steps(l, root, func(i uint32) bool {
		roots = append(roots, i)
		return len(roots) < most
	})
	return roots, last, n, err
}

// Each generation is shown once, one behind the other, until it is enough: at once, or later.
func TestSteps(t *testing.T) {
	r := rand.New(rand.NewSource(21))
	for _, text := range rules {
		l := alive(t, text)
		x := l.Kernel().Table()
		for _, level := range []int{3, 4, 6} {
			for _, s := range anySets(r, x.Lattice, level) {
				for _, most := range []int{1, 2, 5} {
					roots, last, n, err := shown(l, wide(t, l.Arena, s, level+r.Intn(3)), most)
					if n != most || err != nil || len(roots) != most || last != roots[most-1] {
						t.Fatalf("%s: %d were made, and %v shown, not %d; %d, %v", text, n, roots, most, last, err)
					}
					then := s
					for _, i := range roots {
						then = stepped(t, x, then, 1)
						is(t, l, then)(i, nil)
					}
				}
			}
		}
	}
}

// So many steps are a jump.
func TestStepsAreAJump(t *testing.T) {
	r := rand.New(rand.NewSource(22))
	for _, text := range rules {
		l := alive(t, text)
		root := built(t, l.Arena, some(r, l.Kernel().Table().Lattice, 12, 5))
		roots, last, n, err := shown(l, root, 30)
		if n != 30 || err != nil || answered(t)(jump.Jump(l, root, 30)) != last {
			t.Errorf("%s: %d after %d, %v", text, last, n, err)
		}
		for i, then := range roots {
			if want := answered(t)(jump.Jump(l, root, i+1)); then != want {
				t.Errorf("%s: %d after %d, not %d", text, then, i+1, want)
			}
		}
	}
}

// It may ask the life for anything, as long as it doesn't change it.
func TestStepsUntilAllAreGone(t *testing.T) {
	l := alive(t, "B2/S34H")
	root := built(t, l.Arena, set.Of(at(0, 0, 0)))
	last, n, err := jump.Steps(l, root, func(i uint32) bool { return l.Count(i) > 0 && l.Level(i) == 3 })
	if n != 1 || l.Count(last) != 0 || err != nil {
		t.Errorf("%d after %d, %v", last, n, err)
	}
}

// No more than MaxJump, of no cells, and of those that stay or come again; each of them is shown.
func TestStepsEnd(t *testing.T) {
	two := set.Of(at(0, 0, 0), at(1, 0, 0))
	for _, x := range []struct {
		text string
		live set.Set
	}{{"B2/S34H", nil}, {"B/S0H", set.Of(at(-1, 3, 0))}, {"B2/SH", two}} {
		l := alive(t, x.text)
		root := wide(t, l.Arena, x.live, 5)
		seen := 0
		last, n, err := jump.Steps(l, root, func(uint32) bool { seen++; return true })
		if n != api.MaxJump || seen != api.MaxJump || err != nil {
			t.Errorf("%s: %d were made, %d shown, %v", x.text, n, seen, err)
		}
		is(t, l, stepped(t, parsed(t, x.text), x.live, 2))(last, err)
		// Just the last one but one, and the last one, may be the end, too.
		for _, most := range []int{api.MaxJump - 1, api.MaxJump} {
			seen = 0
			if _, n, err := jump.Steps(l, root, func(uint32) bool { seen++; return seen < most }); n != most || err != nil {
				t.Errorf("%s: %d were made, not %d, %v", x.text, n, most, err)
			}
		}
	}
}

// One that can't answer ends it: nothing wants to see more.
func TestSeeThatCannotAnswer(t *testing.T) {
	l := alive(t, "B2/SH")
	s := set.Of(at(0, 0, 0), at(1, 0, 0))
	root := built(t, l.Arena, s)
	calls := 0
	for _, see := range []func(uint32) bool{nil, func(uint32) bool { panic("no answer") }, func(uint32) bool { panic(api.ErrArg) }} {
		last, n, err := jump.Steps(l, root, see)
		if n != 1 {
			t.Errorf("%d were made", n)
		}
		is(t, l, stepped(t, parsed(t, "B2/SH"), s, 1))(last, err)
	}
	last, n, err := jump.Steps(l, root, func(uint32) bool {
		if calls++; calls == 3 {
			panic("no more")
		}
		return true
	})
	if n != 3 || calls != 3 {
		t.Errorf("%d were made, %d shown", n, calls)
	}
	is(t, l, stepped(t, parsed(t, "B2/SH"), s, 3))(last, err)
	none(t, l, 0, api.ErrArg)
	if _, n, err := jump.Steps(l, 0, nil); n != 0 || err != error(api.ErrArg) {
		t.Errorf("Steps of a leaf: %d, %v", n, err)
	}
}

// Where what lives gets too far away, the steps ahead of that are told.
func TestStepsUntilDepth(t *testing.T) {
	l := alive(t, "B123456/S0123456H")
	h := halfOf(42)
	for away := range 5 {
		root := built(t, l.Arena, set.Of(at(0, -h+int64(away), 0)))
		roots, last, n, err := shown(l, root, 100)
		if last != 0 || n != away+1 || err != error(api.ErrDepth) || len(roots) != n {
			t.Errorf("%d away: %d after %d, %v; %v were shown", away, last, n, err, roots)
		}
		for i, then := range roots {
			if want := answered(t)(jump.Jump(l, root, 1)); i == 0 && then != want {
				t.Errorf("%d after one, not %d", then, want)
			}
			if l.Count(then) != uint64(1+3*(i+1)*(i+2)) {
				t.Errorf("%d cells after %d", l.Count(then), i+1)
			}
		}
		// Is it enough just ahead of that, there is no error.
		if _, last, n, err := shown(l, root, away+1); n != away+1 || err != nil || last != roots[away] {
			t.Errorf("%d away: %d after %d, %v", away, last, n, err)
		}
	}
}

// Where there is no more room, the steps ahead of that are told, and they were shown.
func TestStepsUntilNoRoom(t *testing.T) {
	for _, text := range []string{"B123456/S0123456H", "B12/S2E", "B34/S45V"} {
		much := alive(t, text)
		s := set.Of(at(0, 0, 0), at(1, 0, 0), at(0, 1, 0), at(1, 1, 0), at(2, 1, 0), at(-1, 0, 0), at(0, -1, 0))
		want, _, _, _ := shown(much, built(t, much.Arena, s), 40)
		fewest := 40
		for _, room := range []int{0, 1, 20, 100, 300, 1000} {
			l := alive(t, text)
			root := built(t, l.Arena, s)
			leave(t, l.Arena, room)
			roots, last, n, err := shown(l, root, 40)
			if n != len(roots) {
				t.Fatalf("%s: %d were made, %d shown", text, n, len(roots))
			}
			if n < 40 && (last != 0 || err != error(api.ErrBudget) || l.Len() != l.Most()) || n == 40 && (err != nil || last != roots[39]) {
				t.Errorf("%s: with room for %d: %d after %d, %v", text, room, last, n, err)
			}
			fewest = min(fewest, n)
			leave(t, l.Arena, 1<<20)
			for i, then := range roots {
				if l.Count(then) != much.Count(want[i]) {
					t.Errorf("%s: with room for %d, after %d: %d cells, not %d", text, room, i+1, l.Count(then), much.Count(want[i]))
				}
			}
			// With more room they go on.
			more, _, n, err := shown(l, root, 40)
			if n != 40 || err != nil || !slices.Equal(more[:len(roots)], roots) {
				t.Errorf("%s: with more room: %d, %v", text, n, err)
			}
		}
		if fewest > 0 {
			t.Errorf("%s: without room %d were made", text, fewest)
		}
	}
}
