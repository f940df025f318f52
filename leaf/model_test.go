package leaf_test

import (
	"math/rand"
	"testing"

	"honeycomb/block"
	"honeycomb/leaf"
	"honeycomb/site"
)

// asked is a question as a memo has it: behind its bounds.
type asked struct {
	quarters [4]site.Leaf
	n        int
}

// model is what the chapter says of a memo, word by word: a list of what is kept.
type model struct {
	most, made int
	kept       []asked
}

// result does to the model what Result does to a memo.
func (m *model) result(quarters [4]site.Leaf, n int) {
	if n < 0 {
		n = 0
	}
	if n > 2 {
		n = 2
	}
	if n == 0 || quarters[0]|quarters[1]|quarters[2]|quarters[3] == 0 {
		return
	}
	q := asked{quarters, n}
	for _, k := range m.kept {
		if k == q {
			return
		}
	}
	m.made++
	if m.most <= 0 {
		return
	}
	if len(m.kept) == m.most {
		m.kept = nil
	}
	m.kept = append(m.kept, q)
}

// middle is the Middle of a block of quarters, so many generations on.
func middle(k *block.Kernel, quarters [4]site.Leaf, n int) site.Leaf {
	x := block.Of(quarters)
	for i := 0; i < n && i < 2; i++ {
		x = k.Step(x)
	}
	return x.Middle()
}

// anyQuarters are some of few leaves, so that the same come again, in other orders too.
func anyQuarters(r *rand.Rand, leaves []site.Leaf) [4]site.Leaf {
	var quarters [4]site.Leaf
	for i := range quarters {
		quarters[i] = leaves[r.Intn(len(leaves))]
	}
	return quarters
}

// same holds a memo against the model.
func same(t *testing.T, m *leaf.Memo, want *model) {
	t.Helper()
	if m.Made() != want.made || m.Kept() != len(want.kept) {
		t.Fatalf("most %d: made %d, kept %d; not %d, %d", want.most, m.Made(), m.Kept(), want.made, len(want.kept))
	}
}
