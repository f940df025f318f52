package axis_test

import (
	"math"
	"math/big"
	"slices"
	"testing"

	"honeycomb/api"
	"honeycomb/axis"
)

// The calls have just these signatures.
var (
	_ func(int64, int64) (int64, bool)                    = axis.Sum
	_ func(axis.Point) bool                               = axis.Point.Good
	_ func(axis.Point, axis.Point) (axis.Point, error)    = axis.Point.Plus
	_ func(axis.Point, axis.Point) bool                   = axis.Point.Less
	_ func() [6]axis.Point                                = axis.Six
	_ func(axis.Operator) bool                            = axis.Operator.Good
	_ func(axis.Operator, axis.Point) (axis.Point, error) = axis.Operator.On
	_ func(axis.Operator, axis.Operator) axis.Operator    = axis.Operator.Then
	_ func(axis.Operator) axis.Operator                   = axis.Operator.Back
	_ struct{ A, B int64 }                                = axis.Point{}
	_ map[axis.Point]struct{}                             = nil
)

const far = api.MaxCoord

// edges are the numbers at which sums and sizes turn over.
var edges = []int64{
	math.MinInt64, math.MinInt64 + 1, math.MinInt64 / 2, -2*far - 1, -2 * far, -far - 1, -far, -far + 1, -2, -1,
	0, 1, 2, far - 1, far, far + 1, 2 * far, 2*far + 1, math.MaxInt64 / 2, math.MaxInt64/2 + 1, math.MaxInt64 - 1, math.MaxInt64,
}

// matrices are the operators written out: {a, b, c, d} brings (x, y) to (ax + by, cx + dy).
var matrices = [api.Operators][4]int64{
	{1, 0, 0, 1}, {0, -1, 1, 1}, {-1, -1, 1, 0}, {-1, 0, 0, -1}, {0, 1, -1, -1}, {1, 1, -1, 0},
	{0, 1, 1, 0}, {-1, 0, 1, 1}, {-1, -1, 0, 1}, {0, -1, -1, 0}, {1, 0, -1, -1}, {1, 1, 0, -1},
}

func operators() []axis.Operator {
	var all []axis.Operator
	for o := range api.Operators {
		all = append(all, axis.Operator(o))
	}
	return all
}

// grid is the points at most n away on either axis, row by row.
func grid(n int64) []axis.Point {
	var points []axis.Point
	for b := -n; b <= n; b++ {
		for a := -n; a <= n; a++ {
			points = append(points, axis.Point{A: a, B: b})
		}
	}
	return points
}

func edgePoints() []axis.Point {
	var points []axis.Point
	for _, a := range edges {
		for _, b := range edges {
			points = append(points, axis.Point{A: a, B: b})
		}
	}
	return points
}

// good is the document's word of a point, by numbers of any size.
func good(p axis.Point) bool {
	limit := big.NewInt(far)
	return big.NewInt(p.A).CmpAbs(limit) <= 0 && big.NewInt(p.B).CmpAbs(limit) <= 0
}

func mustOn(t *testing.T, o axis.Operator, p axis.Point) axis.Point {
	t.Helper()
	q, err := o.On(p)
	if err != nil {
		t.Fatalf("%d on %v: %v", o, p, err)
	}
	return q
}

func TestSumIsTheSumModuloTwoToThe64(t *testing.T) {
	for _, a := range edges {
		for _, b := range edges {
			exact := new(big.Int).Add(big.NewInt(a), big.NewInt(b))
			got, ok := axis.Sum(a, b)
			if got != a+b || ok != exact.IsInt64() {
				t.Errorf("Sum(%d, %d) = %d, %v", a, b, got, ok)
			}
		}
	}
}

func TestSumBeyondEitherEnd(t *testing.T) {
	for _, c := range []struct {
		a, b, sum int64
		ok        bool
	}{
		{math.MaxInt64, 1, math.MinInt64, false},
		{1, math.MaxInt64, math.MinInt64, false},
		{math.MinInt64, -1, math.MaxInt64, false},
		{math.MinInt64, math.MinInt64, 0, false},
		{math.MaxInt64, math.MaxInt64, -2, false},
		{math.MaxInt64, math.MinInt64, -1, true},
		{math.MaxInt64 - 1, 1, math.MaxInt64, true},
		{math.MinInt64, 0, math.MinInt64, true},
		{20, 22, 42, true},
	} {
		if sum, ok := axis.Sum(c.a, c.b); sum != c.sum || ok != c.ok {
			t.Errorf("Sum(%d, %d) = %d, %v", c.a, c.b, sum, ok)
		}
	}
}

func TestGoodIsWithinMaxCoord(t *testing.T) {
	for _, p := range edgePoints() {
		if p.Good() != good(p) {
			t.Errorf("%v.Good() = %v", p, p.Good())
		}
	}
	for _, p := range []axis.Point{{}, {far, far}, {-far, -far}, {far, -far}} {
		if !p.Good() {
			t.Errorf("%v isn't good", p)
		}
	}
	for _, p := range []axis.Point{{far + 1, 0}, {-far - 1, 0}, {0, far + 1}, {0, -far - 1}, {math.MinInt64, 0}, {0, math.MinInt64}} {
		if p.Good() {
			t.Errorf("%v is good", p)
		}
	}
}

func TestPlus(t *testing.T) {
	for _, c := range []struct {
		p, q, sum axis.Point
		err       error
	}{
		{p: axis.Point{A: 1, B: -2}, q: axis.Point{A: 30, B: 40}, sum: axis.Point{A: 31, B: 38}},
		{p: axis.Point{A: far, B: -far}, q: axis.Point{}, sum: axis.Point{A: far, B: -far}},
		{p: axis.Point{A: far, B: far}, q: axis.Point{A: -far, B: -far}},
		{p: axis.Point{A: far - 1}, q: axis.Point{A: 1}, sum: axis.Point{A: far}},
		{p: axis.Point{A: far}, q: axis.Point{A: 1}, err: api.ErrRange},
		{p: axis.Point{B: -far}, q: axis.Point{B: -1}, err: api.ErrRange},
		{p: axis.Point{A: far + 1}, q: axis.Point{A: -1}, err: api.ErrRange},
		{p: axis.Point{A: -1}, q: axis.Point{A: far + 1}, err: api.ErrRange},
		{p: axis.Point{B: math.MinInt64}, q: axis.Point{B: math.MinInt64}, err: api.ErrRange},
	} {
		if sum, err := c.p.Plus(c.q); sum != c.sum || err != c.err {
			t.Errorf("%v.Plus(%v) = %v, %v", c.p, c.q, sum, err)
		}
	}
}

func TestPlusAtTheEdges(t *testing.T) {
	for _, p := range edgePoints() {
		for _, q := range edgePoints() {
			var want axis.Point
			var wantErr error = api.ErrRange
			if sum := (axis.Point{A: p.A + q.A, B: p.B + q.B}); good(p) && good(q) && good(sum) {
				want, wantErr = sum, nil
			}
			if got, err := p.Plus(q); got != want || err != wantErr {
				t.Fatalf("%v.Plus(%v) = %v, %v", p, q, got, err)
			}
		}
	}
}

func TestLessIsRowByRow(t *testing.T) {
	points := append(grid(3), edgePoints()...)
	for _, p := range points {
		for _, q := range points {
			want := p.B < q.B || p.B == q.B && p.A < q.A
			if p.Less(q) != want {
				t.Fatalf("%v.Less(%v) = %v", p, q, !want)
			}
		}
	}
	if !slices.IsSortedFunc(grid(4), func(p, q axis.Point) int {
		if p.Less(q) {
			return -1
		}
		return 1
	}) {
		t.Error("rows aren't one behind the other")
	}
}

func TestSix(t *testing.T) {
	want := [6]axis.Point{{1, 0}, {0, 1}, {-1, 1}, {-1, 0}, {0, -1}, {1, -1}}
	six := axis.Six()
	if six != want {
		t.Fatalf("Six() = %v", six)
	}
	six[0] = axis.Point{A: 9, B: 9}
	if axis.Six() != want {
		t.Error("what Six answered is shared with its table")
	}
}

func TestTurnBringsEachOfTheSixToTheNext(t *testing.T) {
	six := axis.Six()
	for o := range 6 {
		for i, p := range six {
			if q := mustOn(t, axis.Operator(o), p); q != six[(i+o)%6] {
				t.Errorf("%d on %v: %v", o, p, q)
			}
		}
	}
}

func TestOperatorGood(t *testing.T) {
	for _, o := range operators() {
		if !o.Good() {
			t.Errorf("%d isn't good", o)
		}
	}
	for _, o := range []axis.Operator{-1, -6, -12, 12, 13, math.MinInt, math.MaxInt} {
		if o.Good() {
			t.Errorf("%d is good", o)
		}
	}
}

func TestOnExamples(t *testing.T) {
	for _, c := range []struct {
		o    axis.Operator
		p, q axis.Point
	}{
		{1, axis.Point{A: 1}, axis.Point{B: 1}},
		{6, axis.Point{A: 2, B: -1}, axis.Point{A: -1, B: 2}},
		{7, axis.Point{A: 2, B: -1}, axis.Point{A: -2, B: 1}},
	} {
		if q := mustOn(t, c.o, c.p); q != c.q {
			t.Errorf("%d on %v: %v", c.o, c.p, q)
		}
	}
}

// Products stay far within 64 bits of good points, so that the written-out operators may be asked plainly.
func TestOnAtTheEdges(t *testing.T) {
	for _, p := range append(grid(5), edgePoints()...) {
		for _, o := range operators() {
			m := matrices[o]
			var want axis.Point
			var wantErr error = api.ErrRange
			if q := (axis.Point{A: m[0]*p.A + m[1]*p.B, B: m[2]*p.A + m[3]*p.B}); good(p) && good(q) {
				want, wantErr = q, nil
			}
			if got, err := o.On(p); got != want || err != wantErr {
				t.Fatalf("%d on %v: %v, %v", o, p, got, err)
			}
		}
	}
}

func TestOnAsksForTheEndOfTheWayAlone(t *testing.T) {
	p := axis.Point{A: far, B: 1}
	if _, err := axis.Operator(1).On(p); err != api.ErrRange {
		t.Errorf("one turn: %v", err)
	}
	if _, err := axis.Operator(2).On(p); err != api.ErrRange {
		t.Errorf("two turns: %v", err)
	}
	if q, err := axis.Operator(3).On(p); err != nil || q != (axis.Point{A: -far, B: -1}) {
		t.Errorf("three turns: %v, %v", q, err)
	}
	if q, err := axis.Operator(9).On(p); err != nil || q != (axis.Point{A: -1, B: -far}) {
		t.Errorf("a swap and three turns: %v, %v", q, err)
	}
}

func TestOnRefusesAPointThatWouldComeBack(t *testing.T) {
	p := axis.Point{A: far + 1, B: -1}
	if q, err := axis.Operator(1).On(p); err != api.ErrRange || q != (axis.Point{}) {
		t.Errorf("On = %v, %v", q, err)
	}
}

func TestOnOfNoOperator(t *testing.T) {
	for _, o := range []axis.Operator{-1, -12, 12, 13, math.MinInt, math.MaxInt} {
		for _, p := range []axis.Point{{}, {3, -1}, {far + 1, 0}, {math.MinInt64, math.MaxInt64}} {
			if q, err := o.On(p); err != api.ErrArg || q != (axis.Point{}) {
				t.Errorf("%d on %v: %v, %v", o, p, q, err)
			}
		}
	}
}

func TestThenDoesOneBehindTheOther(t *testing.T) {
	for _, o := range operators() {
		for _, p := range operators() {
			both := o.Then(p)
			if !both.Good() {
				t.Fatalf("%d.Then(%d) = %d", o, p, both)
			}
			for _, at := range grid(3) {
				if got, want := mustOn(t, both, at), mustOn(t, p, mustOn(t, o, at)); got != want {
					t.Fatalf("%d.Then(%d) = %d: %v goes to %v, not to %v", o, p, both, at, got, want)
				}
			}
		}
	}
}

func TestGroup(t *testing.T) {
	for _, o := range operators() {
		if axis.Operator(0).Then(o) != o || o.Then(0) != o {
			t.Errorf("0 changes %d", o)
		}
		if !o.Back().Good() || o.Then(o.Back()) != 0 || o.Back().Then(o) != 0 {
			t.Errorf("%d.Back() = %d", o, o.Back())
		}
		for _, p := range operators() {
			for _, q := range operators() {
				if o.Then(p).Then(q) != o.Then(p.Then(q)) {
					t.Errorf("%d, %d, %d: not associative", o, p, q)
				}
			}
		}
	}
}

func TestZeroLeavesAllAndBackUndoes(t *testing.T) {
	for _, p := range append(grid(4), edgePoints()...) {
		if !p.Good() {
			continue
		}
		if mustOn(t, 0, p) != p {
			t.Errorf("0 moves %v", p)
		}
		for _, o := range operators() {
			q, err := o.On(p)
			if err == nil && mustOn(t, o.Back(), q) != p {
				t.Errorf("%d.Back() doesn't undo it of %v", o, p)
			}
		}
	}
}

func TestOperatorsAreTwelve(t *testing.T) {
	seen := map[[2]axis.Point]axis.Operator{}
	for _, o := range operators() {
		way := [2]axis.Point{mustOn(t, o, axis.Point{A: 1}), mustOn(t, o, axis.Point{B: 1})}
		if p, ok := seen[way]; ok {
			t.Errorf("%d and %d are one", p, o)
		}
		seen[way] = o
	}
}

func TestOperatorsKeepBeside(t *testing.T) {
	for _, o := range operators() {
		if mustOn(t, o, axis.Point{}) != (axis.Point{}) {
			t.Errorf("%d moves the origin", o)
		}
		for _, p := range grid(3) {
			for _, q := range grid(3) {
				if beside(p, q) != beside(mustOn(t, o, p), mustOn(t, o, q)) {
					t.Fatalf("%d on %v, %v", o, p, q)
				}
			}
		}
	}
}

func beside(p, q axis.Point) bool {
	six := axis.Six()
	return slices.Contains(six[:], axis.Point{A: q.A - p.A, B: q.B - p.B})
}
