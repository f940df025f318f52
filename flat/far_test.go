package flat_test

import (
	"math/rand"
	"slices"
	"testing"

	"honeycomb/api"
	"honeycomb/axis"
	"honeycomb/cell"
	"honeycomb/set"
)

// A cell that is born with one beside it only, or stays with none only, shows whoever is near.
var shy = map[cell.Lattice]string{api.Hex: "B1/S0H", api.Edge: "B1/S0E", api.Vertex: "B1/S0V"}

// apart: have two cells no cell beside them in common, and aren't they beside each other?
func apart(l cell.Lattice, c, d cell.Cell) bool {
	return !touch(l, c, d) && !slices.ContainsFunc(touching(l, c), func(e cell.Cell) bool { return touch(l, e, d) })
}

func both(s, t set.Set) set.Set {
	return set.Of(slices.Concat(s, t)...)
}

// Two cells, at all distances up to five: those that are just far enough apart step as each by itself, whatever the table is; those that are nearer don't by each.
func TestFarOfTwoCells(t *testing.T) {
	r := rand.New(rand.NewSource(13))
	for _, l := range lattices {
		x := parse(t, shy[l])
		near, away := 0, 0
		for half := range l.Halves() {
			c := at(0, 0, half)
			for i := range 121 * l.Halves() {
				d := at(int64(i%11)-5, int64(i/11%11)-5, i/121)
				if d == c {
					continue
				}
				s, u := set.Of(c), set.Of(d)
				together, each := mustStep(t, x, both(s, u)), both(mustStep(t, x, s), mustStep(t, x, u))
				if !apart(l, c, d) {
					near++
					if together.Same(each) {
						t.Errorf("%s: %v and %v don't change each other", l.Name(), c, d)
					}
					continue
				}
				away++
				y := anyTable(r, l)
				if !together.Same(each) || !mustStep(t, y, both(s, u)).Same(both(mustStep(t, y, s), mustStep(t, y, u))) {
					t.Errorf("%s: %v and %v change each other", l.Name(), c, d)
				}
			}
		}
		if near == 0 || away == 0 {
			t.Errorf("%s: %d near, %d away", l.Name(), near, away)
		}
	}
}

// A cell reaches one point further each generation: sets of points with more than twice that between them never meet.
func TestFarOfTwoSets(t *testing.T) {
	const generations, size = 4, 2
	r := rand.New(rand.NewSource(14))
	for _, l := range lattices {
		for range 25 {
			x := anyTable(r, l)
			s := some(r, l, 10, size)
			for _, by := range []axis.Point{{A: 2*size + 2*generations + 1}, {B: -2*size - 2*generations - 1}, {A: far / 2, B: -far / 3}} {
				u, err := some(r, l, 10, size).Shift(by)
				if err != nil {
					t.Fatal(err)
				}
				for n := range generations + 1 {
					together := mustSteps(t, x, both(s, u), n)
					if each := both(mustSteps(t, x, s, n), mustSteps(t, x, u, n)); !together.Same(each) {
						t.Fatalf("%v: %v and %v change each other within %d steps", x, s, u, n)
					}
				}
			}
		}
	}
}

// What is born with few beside it, and stays with any, spreads until it meets others.
var spreading = []string{"B1/S0123456H", "B1/S0123E", "B123/S0123456789abcV"}

// Sets that were far enough apart for one generation may be too near for the next one.
func TestTooNearLater(t *testing.T) {
	for _, text := range spreading {
		x := parse(t, text)
		s, u := set.Of(at(0, 0, 0)), set.Of(at(5, 0, 0))
		met := false
		for n := range 8 {
			same := mustSteps(t, x, both(s, u), n).Same(both(mustSteps(t, x, s, n), mustSteps(t, x, u, n)))
			if n <= 1 && !same {
				t.Errorf("%s: they change each other within %d steps", text, n)
			}
			met = met || !same
		}
		if !met {
			t.Errorf("%s: they never meet", text)
		}
	}
}
