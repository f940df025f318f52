package arena_test

import (
	"math/big"
	"math/bits"
	"math/rand"
	"slices"
	"testing"

	"honeycomb/api"
	"honeycomb/arena"
	"honeycomb/site"
)

// thing is a node as the chapter has it: a leaf, or four kids.
type thing struct {
	level int
	leaf  site.Leaf
	kids  [4]uint32
}

// model is an arena as the chapter says it, word by word: a list of nodes, with the numbers that the arena told of them.
type model struct {
	most    int
	things  []thing
	numbers []uint32
}

func newModel(most int) *model {
	return &model{most: max(most, 64), things: []thing{{level: 2}}, numbers: []uint32{0}}
}

// of is the node of a number.
func (m *model) of(i uint32) (thing, bool) {
	j := slices.Index(m.numbers, i)
	if j < 0 {
		return thing{}, false
	}
	return m.things[j], true
}

// want is what is asked of a call: a node that is there, a new one, or an error.
type want struct {
	number uint32
	is     bool
	err    error
}

// find is what there is to answer, where x is wanted.
func (m *model) find(x thing) want {
	if j := slices.Index(m.things, x); j >= 0 {
		return want{number: m.numbers[j], is: true}
	}
	if len(m.things) >= m.most {
		return want{err: api.ErrBudget}
	}
	return want{}
}

// join is the node of these kids, as far as there may be one.
func (m *model) join(kids [4]uint32) (thing, error) {
	first, ok := m.of(kids[0])
	for _, i := range kids {
		kid, there := m.of(i)
		if !ok || !there || kid.level != first.level {
			return thing{}, api.ErrArg
		}
	}
	if first.level == 44 {
		return thing{}, api.ErrDepth
	}
	return thing{level: first.level + 1, kids: kids}, nil
}

// take holds an answer against what is asked, and takes a new node in.
func (m *model) take(t *testing.T, x thing, w want, i uint32, err error) {
	t.Helper()
	switch {
	case w.err != nil:
		if err != w.err || i != 0 {
			t.Fatalf("%v: %d, %v, not %v", x, i, err, w.err)
		}
	case w.is:
		if err != nil || i != w.number {
			t.Fatalf("%v: %d, %v, not %d", x, i, err, w.number)
		}
	default:
		if err != nil || slices.Contains(m.numbers, i) || int(i) > len(m.things) {
			t.Fatalf("%v is new: %d, %v", x, i, err)
		}
		m.things, m.numbers = append(m.things, x), append(m.numbers, i)
	}
}

// count is how many cells live in a node, of any size.
func (m *model) count(i uint32, known map[uint32]*big.Int) *big.Int {
	if n := known[i]; n != nil {
		return n
	}
	n := big.NewInt(0)
	if x, _ := m.of(i); x.level == 2 {
		n.SetInt64(int64(bits.OnesCount32(uint32(x.leaf))))
	} else {
		for _, kid := range x.kids {
			n.Add(n, m.count(kid, known))
		}
	}
	known[i] = n
	return n
}

// counted is that number as the chapter tells it.
func counted(n *big.Int) uint64 {
	if n.Cmp(big.NewInt(1<<62)) > 0 {
		return 1 << 62
	}
	return n.Uint64()
}

// same holds all that can be asked of an arena against the model.
func (m *model) same(t *testing.T, a *arena.Arena) {
	t.Helper()
	if a.Len() != len(m.things) || a.Most() != m.most {
		t.Fatalf("%d of %d nodes, not %d of %d", a.Len(), a.Most(), len(m.things), m.most)
	}
	known := map[uint32]*big.Int{}
	for j, x := range m.things {
		i := m.numbers[j]
		if int(i) >= a.Len() || a.Level(i) != x.level || a.Bits(i) != x.leaf || a.Kids(i) != x.kids || a.Count(i) != counted(m.count(i, known)) {
			t.Fatalf("node %d of %d: %d, %x, %v, %d; not %v with %v", i, a.Len(), a.Level(i), a.Bits(i), a.Kids(i), a.Count(i), x, m.count(i, known))
		}
	}
}

// anyKids are numbers of nodes that are there, most often of one level, now and then of others, or none.
func (m *model) anyKids(r *rand.Rand) [4]uint32 {
	var kids [4]uint32
	first := r.Intn(len(m.things))
	for i := range kids {
		j := r.Intn(len(m.things))
		for m.things[j].level != m.things[first].level && r.Intn(100) > 0 {
			j = r.Intn(len(m.things))
		}
		kids[i] = m.numbers[j]
	}
	if r.Intn(20) == 0 {
		kids[r.Intn(4)] = uint32(len(m.things)) + uint32(r.Intn(3))
	}
	return kids
}
