package fix_test

import (
	"math"
	"math/rand/v2"
	"slices"
	"testing"

	"remontoir/demand"
	"remontoir/fix"
)

const most = 1 << 40

// none are numbers with which layer 2 doesn't reckon.
var none = []int{-1, -2, -most, math.MinInt, most + 1, 2 * most, 1 << 62, math.MaxInt}

// comes: the first work and all that comes in so many ticks, of terms whose numbers are right and small.
func comes(own, ticks int, l []demand.Term) int {
	for _, k := range l {
		own += k.Carry
		if ticks > k.Offset {
			own += (ticks - k.Offset + k.Period - 1) / k.Period * k.Cost
		}
	}
	return own
}

// least: the least time that is enough, from the first work (at least 1) up to a bound, told tick by tick.
func least(own, most int, l []demand.Term) (int, bool) {
	for ticks := max(own, 1); ticks <= most; ticks++ {
		if comes(own, ticks, l) <= ticks {
			return ticks, true
		}
	}
	return 0, false
}

// looks: the times that are looked at, the last one too, up to a bound.
func looks(own, most int, l []demand.Term) []int {
	seen := []int{max(own, 1)}
	for {
		last := seen[len(seen)-1]
		if next := comes(own, last, l); last <= most && next > last {
			seen = append(seen, next)
			continue
		}
		return seen
	}
}

// is holds what Least and Steps answer, each time the same; 0 looks: there is nothing.
func is(t *testing.T, own, most, want, steps int, l ...demand.Term) {
	t.Helper()
	given := slices.Clone(l)
	for range 2 {
		if n, ok := fix.Least(own, most, l...); n != want || ok != (steps > 0) {
			t.Errorf("Least(%d, %d, %+v): %d, %v, not %d", own, most, l, n, ok, want)
		}
		if n, ok := fix.Steps(own, most, l...); n != steps || ok != (steps > 0) {
			t.Errorf("Steps(%d, %d, %+v): %d, %v, not %d", own, most, l, n, ok, steps)
		}
	}
	if !slices.Equal(given, l) {
		t.Errorf("%+v is changed to %+v", given, l)
	}
}

// isNone holds that Least and Steps answer nothing.
func isNone(t *testing.T, own, most int, l ...demand.Term) {
	t.Helper()
	is(t, own, most, 0, 0, l...)
}

// isDone holds what Done answers, each time the same.
func isDone(t *testing.T, want bool, own, ticks int, l ...demand.Term) {
	t.Helper()
	for range 2 {
		if got := fix.Done(own, ticks, l...); got != want {
			t.Errorf("Done(%d, %d, %+v): %v", own, ticks, l, got)
		}
	}
}

// against holds all calls against what is told tick by tick, and look by look.
func against(t *testing.T, own, bound int, l ...demand.Term) {
	t.Helper()
	want, ok := least(own, bound, l)
	if !ok {
		isNone(t, own, bound, l...)
		return
	}
	seen := looks(own, bound, l)
	if seen[len(seen)-1] != want {
		t.Fatalf("%d, %+v: the model looks at %v, and finds %d", own, l, seen, want)
	}
	is(t, own, bound, want, len(seen), l...)
	is(t, own, want, want, len(seen), l...)
	is(t, own, math.MaxInt, want, len(seen), l...)
	isNone(t, own, want-1, l...)
}

// small are terms of small numbers.
func small() []demand.Term {
	var l []demand.Term
	for period := 1; period < 6; period++ {
		for cost := range 4 {
			for _, offset := range []int{0, 1, 4} {
				for _, carry := range []int{0, 2} {
					l = append(l, demand.Term{Period: period, Cost: cost, Offset: offset, Carry: carry})
				}
			}
		}
	}
	return l
}

// P17.1 to P17.3: small terms, none, one, and each two of them.
func TestSmall(t *testing.T) {
	for own := range 6 {
		for bound := -1; bound < 9; bound++ {
			against(t, own, bound)
			for _, k := range small() {
				against(t, own, bound, k)
			}
		}
		for _, a := range small() {
			against(t, own, 100, a)
			for _, b := range small() {
				against(t, own, 60, a, b)
			}
		}
	}
}

// P17.2: of each time whether it is enough, also of those behind and ahead of the least one.
func TestDoneSmall(t *testing.T) {
	for _, a := range small() {
		for _, b := range small() {
			for own := range 4 {
				for ticks := range 20 {
					if want := comes(own, ticks, []demand.Term{a, b}) <= ticks; fix.Done(own, ticks, a, b) != want {
						t.Fatalf("Done(%d, %d, %+v, %+v): %v", own, ticks, a, b, !want)
					}
				}
			}
		}
	}
}

// P17.1 to P17.3: terms like those of tasks.
func TestMixture(t *testing.T) {
	r := rand.New(rand.NewPCG(17, 1))
	found, many := 0, 0
	for range 3000 {
		var l []demand.Term
		for range r.IntN(7) {
			period := 1 + r.IntN(200)
			l = append(l, demand.Term{Period: period, Cost: r.IntN(period/3 + 2), Offset: r.IntN(3) / 2 * r.IntN(300), Carry: r.IntN(4) / 3 * r.IntN(100)})
		}
		own := r.IntN(50)
		against(t, own, 3000, l...)
		if _, ok := least(own, 3000, l); ok {
			found++
			many = max(many, len(looks(own, 3000, l)))
		}
	}
	if found < 500 || found > 2900 || many < 20 {
		t.Error(found, many)
	}
}

// P17.1: the first look is at the first work, at least 1, and no time above the bound is enough.
func TestFirst(t *testing.T) {
	is(t, 0, 1, 1, 1)
	is(t, 1, 1, 1, 1)
	is(t, 7, 7, 7, 1)
	is(t, 7, 8, 7, 1)
	isNone(t, 7, 6)
	isNone(t, 0, 0)
	isNone(t, 1, 0)
	isNone(t, 0, -1)
	isNone(t, 0, math.MinInt)
	is(t, 0, 9, 1, 1, demand.Term{Period: 9})
	is(t, 0, 9, 1, 1, demand.Term{Period: 9, Cost: 1})
	is(t, 0, 9, 2, 2, demand.Term{Period: 9, Cost: 2})
	is(t, 0, 2, 2, 2, demand.Term{Period: 9, Cost: 2})
	isNone(t, 0, 1, demand.Term{Period: 9, Cost: 2})
	is(t, 0, 9, 1, 1, demand.Term{Period: 9, Cost: 8, Offset: 1}) // it comes just behind the first look
	is(t, 0, 9, 5, 2, demand.Term{Period: 9, Carry: 5})
}

// P17.1, P17.2: a first work that is none.
func TestOwn(t *testing.T) {
	for _, own := range none {
		for _, bound := range []int{-1, 0, 1, 100, most, most + 1, math.MaxInt} {
			isNone(t, own, bound)
			isNone(t, own, bound, demand.Term{Period: 5, Cost: 2})
			isNone(t, own, bound, demand.Term{Period: 5, Carry: 50})
			isDone(t, false, own, bound)
			isDone(t, false, own, bound, demand.Term{Period: 5, Carry: 50})
		}
	}
}

// P17.1, P17.2: a term of which a number is none, wherever it stands, and whatever it would add.
func TestNoNumbers(t *testing.T) {
	right := demand.Term{Period: 9, Cost: 1}
	for _, bad := range append([]int{0}, none...) {
		for i := range 4 {
			k := demand.Term{Period: 9, Offset: 3}
			*[]*int{&k.Period, &k.Offset, &k.Cost, &k.Carry}[i] = bad
			if bad == 0 && i > 0 {
				continue // a number, but of the Period
			}
			for _, own := range []int{0, 1, 5} {
				isNone(t, own, 1000, k)
				isNone(t, own, math.MaxInt, k)
				isNone(t, own, 1000, k, right)
				isNone(t, own, 1000, right, k)
				isDone(t, false, own, 20, k)
				isDone(t, false, own, 20, right, k)
			}
		}
	}
	for _, bad := range none {
		isDone(t, false, 0, bad, right)
	}
}

// P17.1, P17.2: at the bounds of what layer 2 reckons with.
func TestBounds(t *testing.T) {
	is(t, most, most, most, 1)
	is(t, most, math.MaxInt, most, 1)
	isNone(t, most, most-1)
	is(t, most-5, most, most, 2, demand.Term{Period: most, Cost: 5})
	isNone(t, most-5, most, demand.Term{Period: most, Cost: 6})
	isNone(t, most-5, math.MaxInt, demand.Term{Period: most, Cost: 6})
	isNone(t, most-5, most-1, demand.Term{Period: most, Cost: 5})
	isNone(t, 1, math.MaxInt, demand.Term{Period: 1, Cost: 2}) // ever more, till it is too great
	isNone(t, 3, math.MaxInt, demand.Term{Period: 3, Cost: 2}, demand.Term{Period: 4, Cost: 3})
	isNone(t, 2, math.MaxInt, demand.Term{Period: 1, Cost: most})                    // of two jobs too great
	is(t, 0, math.MaxInt, 1, 1, demand.Term{Period: 1, Cost: most, Offset: 1})       // it would be, but none is asked for
	is(t, 1<<39, math.MaxInt, most, 2, demand.Term{Period: most, Carry: 1 << 39})    // just all
	isNone(t, 1<<39, math.MaxInt, demand.Term{Period: most, Carry: 1<<39 + 1})       // and one more
	isNone(t, 1, math.MaxInt, demand.Term{Period: 1 << 20, Cost: 1<<20 + 1})         // a little more than there is time
	is(t, 1<<20, most, most, 1<<20+1, demand.Term{Period: 1 << 20, Cost: 1<<20 - 1}) // a little less
	isNone(t, 1<<20, most-1, demand.Term{Period: 1 << 20, Cost: 1<<20 - 1})          // though not by then
	isNone(t, 1<<20+1, math.MaxInt, demand.Term{Period: 1 << 20, Cost: 1<<20 - 1})   // nor by what is too great
	isDone(t, true, most, most)
	isDone(t, true, most, math.MaxInt)
	isDone(t, false, most, most-1)
	isDone(t, true, 1<<39, most, demand.Term{Period: 1, Carry: 1 << 39})
	isDone(t, false, 1<<39+1, most, demand.Term{Period: 1, Carry: 1 << 39})
	isDone(t, true, 0, most, demand.Term{Period: 1, Cost: 1})
	isDone(t, false, 1, most, demand.Term{Period: 1, Cost: 1})
	isDone(t, false, 0, most, demand.Term{Period: 1, Cost: 2})
}

// P17.2: a time need be neither 1 nor the first work's.
func TestDone(t *testing.T) {
	a := demand.Term{Period: 5, Cost: 2}
	isDone(t, true, 0, 0)
	isDone(t, true, 0, 0, a)
	isDone(t, false, 1, 0)
	isDone(t, false, 0, -1)
	isDone(t, false, 0, -1, a)
	isDone(t, false, 0, 1, a)
	isDone(t, true, 0, 2, a)
	isDone(t, false, 2, 3, a)
	isDone(t, true, 2, 4, a)
	isDone(t, true, 2, 5, a)
	isDone(t, true, 2, 6, a)  // the second one came, too
	isDone(t, false, 4, 7, a) // 4 and 4
	isDone(t, true, 4, 8, a)
	isDone(t, false, 0, 2, demand.Term{Period: 5, Carry: 3})
}

// P17.1, P17.3: what is found behind many looks is what is found behind few.
func TestManyLooks(t *testing.T) {
	slow := demand.Term{Period: 6000, Cost: 5999}
	for _, c := range []struct {
		own int
		l   []demand.Term
	}{
		{6000, []demand.Term{slow}},
		{60000, []demand.Term{slow}},
		{5999, []demand.Term{{Period: 6000, Cost: 5999, Carry: 1}}},
		{6000, []demand.Term{slow, {Period: 1, Cost: 1, Offset: 6000 * 6000}}},        // as much as there is time, but later
		{6000, []demand.Term{slow, {Period: 7, Cost: 700, Offset: 6000 * 6000}}},      // more than that
		{6000, []demand.Term{slow, {Period: 11000}}},                                  // for some time of 11000 ticks more comes than there is time
		{0, []demand.Term{slow, {Period: 6000 * 6000, Cost: 6000, Offset: 1}}},        // just as much, but once in a round
		{5000, []demand.Term{{Period: 5001, Cost: 5000}, {Period: 1 << 39, Cost: 9}}}, // a round is too great
	} {
		seen := looks(c.own, most, c.l)
		if len(seen) < 5000 {
			t.Fatalf("%+v: %d looks", c, len(seen))
		}
		last := seen[len(seen)-1]
		is(t, c.own, most, last, len(seen), c.l...)
		is(t, c.own, last, last, len(seen), c.l...)
		isNone(t, c.own, last-1, c.l...)
		isNone(t, c.own, seen[len(seen)-2], c.l...)
	}
	for own := 1; own < 5; own++ {
		isNone(t, own, 100000, demand.Term{Period: 1, Cost: 1})
		isNone(t, own, 100000, demand.Term{Period: 2, Cost: 1}, demand.Term{Period: 4, Cost: 2})
		isNone(t, own, 100000, demand.Term{Period: 7, Cost: 6}, demand.Term{Period: 14, Cost: 1}, demand.Term{Period: 28, Cost: 2})
	}
}

// Rule 5: what lies behind the list's length isn't read.
func TestLength(t *testing.T) {
	l := []demand.Term{{Period: 5, Cost: 2}, {}}
	is(t, 2, 100, 4, 2, l[:1]...)
	isDone(t, true, 2, 4, l[:1]...)
	isNone(t, 2, 100, l...)
	is(t, 2, 100, 2, 1, l[:0]...)
}

// The chapter's example.
func TestExample(t *testing.T) {
	is(t, 2, 100, 4, 2, demand.Term{Period: 5, Cost: 2})
}
