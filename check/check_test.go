package check_test

import (
	"iter"
	"math"
	"slices"
	"testing"

	"remontoir/check"
)

const most = check.Most

// none: numbers with which one doesn't reckon.
var none = []int{-1, -2, -most, math.MinInt, most + 1, 2 * most, 1 << 62, math.MaxInt}

// some: numbers with which one reckons, the bounds among them.
var some = []int{0, 1, 2, 3, 7, 4096, 1<<20 - 1, 1 << 20, 1<<20 + 1, 1<<39 - 1, 1 << 39, 1<<39 + 1, most - 1, most}

type op func(a, b int) (int, bool)

func operations() map[string]op {
	return map[string]op{"Add": check.Add, "Mul": check.Mul, "Up": check.Up, "Less": check.Less, "Common": check.Common, "Multiple": check.Multiple}
}

type row struct {
	a, b, want int
	ok         bool
}

func hold(t *testing.T, name string, f op, rows ...row) {
	t.Helper()
	for _, r := range rows {
		for range 2 { // P2: the same each time
			if got, ok := f(r.a, r.b); got != r.want || ok != r.ok {
				t.Errorf("%s(%d, %d): %d, %v", name, r.a, r.b, got, ok)
			}
		}
	}
}

func TestMost(t *testing.T) {
	if check.Most != 1099511627776 {
		t.Error(check.Most)
	}
}

// P2.1, P2.3, P1: 0 and false of what is no number, on either side.
func TestNoNumbers(t *testing.T) {
	for name, f := range operations() {
		for _, bad := range none {
			for _, other := range slices.Concat(some, none) {
				hold(t, name, f, row{bad, other, 0, false}, row{other, bad, 0, false})
			}
		}
	}
}

// P2.1
func TestAdd(t *testing.T) {
	hold(t, "Add", check.Add,
		row{0, 0, 0, true}, row{2, 3, 5, true}, row{0, most, most, true}, row{most, 0, most, true}, row{most - 1, 1, most, true}, row{1 << 39, 1 << 39, most, true},
		row{most, 1, 0, false}, row{1, most, 0, false}, row{most, most, 0, false}, row{1<<39 + 1, 1 << 39, 0, false})
}

// P2.1
func TestMul(t *testing.T) {
	hold(t, "Mul", check.Mul,
		row{0, 0, 0, true}, row{0, most, 0, true}, row{most, 0, 0, true}, row{1, most, most, true}, row{most, 1, most, true}, row{6, 7, 42, true},
		row{1 << 20, 1 << 20, most, true}, row{1 << 30, 1 << 10, most, true}, row{3, most / 3, most - 1, true},
		row{1 << 30, 1 << 11, 0, false}, row{1<<20 + 1, 1 << 20, 0, false}, row{3, most/3 + 1, 0, false}, row{2, most, 0, false},
		row{1 << 32, 1 << 32, 0, false}, row{most, most, 0, false}) // wrapped round 0
}

// P2.1
func TestUp(t *testing.T) {
	hold(t, "Up", check.Up,
		row{7, 2, 4, true}, row{8, 2, 4, true}, row{9, 2, 5, true}, row{0, 1, 0, true}, row{0, most, 0, true}, row{1, most, 1, true}, row{most, most, 1, true},
		row{most, 1, most, true}, row{most, 2, 1 << 39, true}, row{most - 1, most, 1, true}, row{most, most - 1, 2, true},
		row{0, 0, 0, false}, row{7, 0, 0, false}, row{most, 0, 0, false})
}

// P2.1
func TestLess(t *testing.T) {
	hold(t, "Less", check.Less,
		row{5, 3, 2, true}, row{3, 5, 0, true}, row{3, 3, 0, true}, row{0, 0, 0, true}, row{0, most, 0, true}, row{most, 0, most, true}, row{most, 1, most - 1, true}, row{most, most, 0, true})
}

// P2.2
func TestSum(t *testing.T) {
	for _, c := range []struct {
		l     []int
		want  int
		ok    bool
		asked int // how many numbers are gone through
	}{
		{nil, 0, true, 0}, {[]int{0}, 0, true, 1}, {[]int{5}, 5, true, 1}, {[]int{1, 2, 3}, 6, true, 3}, {[]int{0, 0, 7, 0}, 7, true, 4},
		{[]int{most}, most, true, 1}, {[]int{most, 0, 0}, most, true, 3}, {[]int{most - 1, 1}, most, true, 2},
		{[]int{1, 2, -1, 4}, 0, false, 3}, {[]int{-1}, 0, false, 1}, {[]int{most + 1, 1}, 0, false, 1},
		{[]int{most, 1, 2}, 0, false, 2}, {[]int{1 << 39, 1 << 39, 1, -1}, 0, false, 3},
		{[]int{math.MinInt, 1}, 0, false, 1}, {[]int{1, math.MaxInt, 1}, 0, false, 2}, {[]int{3, -1, 1}, 0, false, 2},
	} {
		asked := 0
		l := func(yield func(int) bool) {
			for _, n := range c.l {
				asked++
				if !yield(n) {
					return
				}
			}
		}
		for range 2 { // P2
			asked = 0
			if got, ok := check.Sum(l); got != c.want || ok != c.ok || asked != c.asked {
				t.Errorf("%v: %d, %v, behind %d", c.l, got, ok, asked)
			}
		}
	}
	if got, ok := check.Sum(slices.Values([]int{4, 5})); got != 9 || !ok {
		t.Error(got, ok)
	}
}

// P2.2, rule 1: nil goes through none.
func TestSumNil(t *testing.T) {
	if got, ok := check.Sum(nil); got != 0 || !ok {
		t.Error(got, ok)
	}
}

// P2.2, P1: Sum doesn't panic, whatever it is given.
func TestSumPanics(t *testing.T) {
	for name, l := range map[string]iter.Seq[int]{
		"at once": func(func(int) bool) { panic("at once") },
		"behind some": func(yield func(int) bool) {
			yield(1)
			yield(2)
			panic("behind some")
		},
		"nil": func(yield func(int) bool) {
			yield(1)
			panic(nil)
		},
		"goes on behind no number": func(yield func(int) bool) {
			yield(-1)
			yield(1)
		},
		"goes on behind a sum too great": func(yield func(int) bool) {
			yield(most)
			yield(1)
			yield(1)
		},
		"goes on, and recovers": func(yield func(int) bool) {
			defer func() { _ = recover() }()
			yield(-1)
			yield(1)
		},
	} {
		if got, ok := check.Sum(l); got != 0 || ok {
			t.Errorf("%s: %d, %v", name, got, ok)
		}
	}
}

// P2.3
func TestCommon(t *testing.T) {
	hold(t, "Common", check.Common,
		row{12, 18, 6, true}, row{18, 12, 6, true}, row{7, 5, 1, true}, row{4, 4, 4, true}, row{1, most, 1, true}, row{most, 1 << 39, 1 << 39, true}, row{most, most - 1, 1, true}, row{most, most, most, true},
		row{0, 6, 6, true}, row{6, 0, 6, true}, row{0, most, most, true}, row{most, 0, most, true}, row{0, 0, 0, true})
}

// P2.3
func TestMultiple(t *testing.T) {
	hold(t, "Multiple", check.Multiple,
		row{4, 6, 12, true}, row{6, 4, 12, true}, row{7, 5, 35, true}, row{4, 4, 4, true}, row{1, 1, 1, true}, row{1, most, most, true}, row{most, 1, most, true}, row{most, most, most, true}, row{most, 1 << 39, most, true}, row{1 << 20, 1 << 40, most, true},
		row{most - 1, most - 1, most - 1, true}, // the product is too great, the multiple isn't
		row{3 << 20, 1 << 21, 3 << 21, true},
		row{0, 0, 0, false}, row{0, 6, 0, false}, row{6, 0, 0, false}, row{most, 0, 0, false},
		row{most, 3, 0, false}, row{most, most - 1, 0, false}, row{1<<20 + 1, 1 << 20, 0, false})
}

// least: the least number from 1 on of which something holds.
func least(holds func(int) bool) int {
	n := 1
	for !holds(n) {
		n++
	}
	return n
}

// P2.1, P2.3: small numbers, each answer held against what the words say.
func TestSmall(t *testing.T) {
	for a := range 40 {
		for b := range 40 {
			hold(t, "Add", check.Add, row{a, b, a + b, true})
			hold(t, "Mul", check.Mul, row{a, b, a * b, true})
			hold(t, "Less", check.Less, row{a, b, max(a-b, 0), true})
			if b == 0 {
				continue
			}
			up := least(func(n int) bool { return (n-1)*b >= a }) - 1 // from 0 on
			hold(t, "Up", check.Up, row{a, b, up, true})
			if a == 0 {
				continue
			}
			hold(t, "Multiple", check.Multiple, row{a, b, least(func(n int) bool { return n%a == 0 && n%b == 0 }), true})
			common := 41 - least(func(n int) bool { return a%(41-n) == 0 && b%(41-n) == 0 })
			hold(t, "Common", check.Common, row{a, b, common, true})
		}
	}
}
