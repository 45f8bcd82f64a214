package opa_test

import (
	"iter"
	"math"
	"math/rand/v2"
	"slices"
	"testing"

	"remontoir/api"
	"remontoir/image"
	"remontoir/opa"
)

// task: one that has its whole period.
func task(period, cost int) api.Task {
	return api.Task{Period: period, Deadline: period, Cost: cost}
}

// maybe holds that tasks may be.
func maybe(t *testing.T, l []api.Task) {
	t.Helper()
	for some := range slices.Chunk(l, api.MaxTasks) {
		if at, e := image.Check(api.Image{Res: api.MaxRes, Tasks: some, Modes: []api.Mode{{}}}); e != api.OK {
			t.Fatalf("%+v may not be: %d, %v", some, at, e)
		}
	}
}

// inTime: is a task never late behind others that come as fast as they may? Told tick by tick.
func inTime(k api.Task, others []api.Task) bool {
	work := k.Cost
	for now := range k.Deadline {
		for _, other := range others {
			if now%other.Period == 0 {
				work += other.Cost
			}
		}
		if work--; work == 0 {
			return true
		}
	}
	return false
}

// fits: as the chapter says it.
func fits(l []api.Task) bool {
	for i, k := range l {
		if !inTime(k, l[:i]) {
			return false
		}
	}
	return true
}

// order: as the chapter says it, from the last place on.
func order(l []api.Task) ([]int, bool) {
	var found []int
	for len(found) < len(l) {
		next := -1
		for i := range l {
			if slices.Contains(found, i) {
				continue
			}
			var others []api.Task
			for n, other := range l {
				if n != i && !slices.Contains(found, n) {
					others = append(others, other)
				}
			}
			if inTime(l[i], others) {
				next = i // the last one that there is
			}
		}
		if next < 0 {
			return nil, false
		}
		found = append(found, next)
	}
	slices.Reverse(found)
	return found, true
}

// orders goes through all orders of so many places.
func orders(many int) iter.Seq[[]int] {
	return func(yield func([]int) bool) {
		next(nil, many, yield)
	}
}

// next goes through all orders that begin so.
func next(l []int, many int, yield func([]int) bool) bool {
	if len(l) == many {
		return yield(slices.Clone(l))
	}
	for i := range many {
		if !slices.Contains(l, i) && !next(append(slices.Clone(l), i), many, yield) {
			return false
		}
	}
	return true
}

// put: tasks in an order that names each place once.
func put(l []api.Task, order []int) []api.Task {
	var some []api.Task
	for _, i := range order {
		some = append(some, l[i])
	}
	return some
}

// is holds what Order answers, each time the same; nil: there is none.
func is(t *testing.T, want []int, l ...api.Task) {
	t.Helper()
	maybe(t, l)
	given := slices.Clone(l)
	for range 2 {
		if got, ok := opa.Order(l...); !slices.Equal(got, want) || ok != (want != nil) || !ok && len(got) > 0 {
			t.Errorf("Order(%+v): %v, %v, not %v", l, got, ok, want)
		}
	}
	if !slices.Equal(given, l) {
		t.Errorf("%+v is changed to %+v", given, l)
	}
}

// isFit holds what Fits answers, each time the same.
func isFit(t *testing.T, want bool, l ...api.Task) {
	t.Helper()
	maybe(t, l)
	given := slices.Clone(l)
	for range 2 {
		if got := opa.Fits(l...); got != want {
			t.Errorf("Fits(%+v): %v", l, got)
		}
	}
	if !slices.Equal(given, l) {
		t.Errorf("%+v is changed to %+v", given, l)
	}
}

// isTight holds what Tight answers, each time the same.
func isTight(t *testing.T, want []int, l ...api.Task) {
	t.Helper()
	given := slices.Clone(l)
	for range 2 {
		if got := opa.Tight(l...); !slices.Equal(got, want) {
			t.Errorf("Tight(%+v): %v, not %v", l, got, want)
		}
	}
	if !slices.Equal(given, l) {
		t.Errorf("%+v is changed to %+v", given, l)
	}
}

// isPut holds what Put answers, each time the same.
func isPut(t *testing.T, l []api.Task, order []int, want []api.Task) {
	t.Helper()
	tasks, places := slices.Clone(l), slices.Clone(order)
	for range 2 {
		if got := opa.Put(l, order); !slices.Equal(got, want) {
			t.Errorf("Put(%+v, %v): %+v, not %+v", l, order, got, want)
		}
	}
	if !slices.Equal(tasks, l) || !slices.Equal(places, order) {
		t.Errorf("%+v, %v: changed to %+v, %v", tasks, places, l, order)
	}
}

// The chapter's example.
func TestExample(t *testing.T) {
	is(t, []int{1, 0}, task(20, 5), task(4, 2))
	isFit(t, false, task(20, 5), task(4, 2))
	isFit(t, true, task(4, 2), task(20, 5))
}

// P38.1: none, and one that has as much time as it may, or as little.
func TestFew(t *testing.T) {
	is(t, []int{})
	isFit(t, true)
	for _, k := range []api.Task{task(1, 1), task(4096, 4096), task(4096, 1), {Period: 4096, Deadline: 1, Cost: 1}, {Period: 4096, Deadline: 7, Cost: 7}} {
		is(t, []int{0}, k)
		isFit(t, true, k)
	}
	is(t, nil, task(1, 1), task(1, 1))
	isFit(t, false, task(1, 1), task(1, 1))
	is(t, []int{0, 1}, task(4096, 2048), task(4096, 2048))
	is(t, nil, task(4096, 2048), task(4096, 2049))
	is(t, nil, task(4096, 4096), task(4096, 1))
	is(t, []int{0, 1}, task(4096, 4095), task(4096, 1))
}

// P38.1: a deadline that is just reached, and one tick shorter.
func TestBounds(t *testing.T) {
	b := api.Task{Period: 20, Deadline: 7, Cost: 5}
	is(t, []int{0, 1}, task(10, 2), b)
	isFit(t, true, task(10, 2), b)
	b.Deadline = 6 // now it must go ahead
	is(t, []int{1, 0}, task(10, 2), b)
	isFit(t, false, task(10, 2), b)
	isFit(t, true, b, task(10, 2))
	a := api.Task{Period: 10, Deadline: 6, Cost: 2}
	is(t, nil, a, b)
	isFit(t, false, a, b)
	isFit(t, false, b, a)
	// A job that comes as another one ends doesn't count; one that comes a tick sooner does.
	is(t, []int{0, 1}, task(7, 2), api.Task{Period: 30, Deadline: 7, Cost: 5})
	is(t, nil, api.Task{Period: 6, Deadline: 2, Cost: 2}, api.Task{Period: 30, Deadline: 8, Cost: 5})
	is(t, []int{0, 1}, api.Task{Period: 6, Deadline: 2, Cost: 2}, api.Task{Period: 30, Deadline: 9, Cost: 5})
}

// P38.1: of several that can go last it is the last one of the list, place by place.
func TestLast(t *testing.T) {
	k := task(100, 5)
	is(t, []int{0, 1, 2, 3}, k, k, k, k)
	short := api.Task{Period: 100, Deadline: 12, Cost: 5}
	is(t, []int{0, 3, 1, 2}, k, k, k, short) // the short one can't be the third one, but the second one
	is(t, []int{0, 2, 1, 3}, k, k, short, k)
	is(t, []int{0, 3, 1, 2}, short, k, k, short)
	is(t, []int{2, 3, 0, 1}, k, k, short, short)
	is(t, []int{0, 2, 1, 3}, short, k, short, k)
	is(t, nil, short, k, short, short)
	short.Deadline = 9 // now it must be the first one
	is(t, []int{3, 0, 1, 2}, k, k, k, short)
	is(t, []int{2, 0, 1, 3}, k, k, short, k)
	is(t, nil, short, k, k, short)
	// Deadlines count for no order: where all would do, it stays as it is.
	is(t, []int{0, 1, 2}, task(300, 5), task(200, 5), task(100, 5))
	is(t, []int{1, 0, 2}, task(300, 5), api.Task{Period: 100, Deadline: 9, Cost: 5}, task(200, 5))
}

// What tasks hold doesn't count.
func TestLongest(t *testing.T) {
	a, b := api.Task{Period: 10, Deadline: 3, Cost: 2}, api.Task{Period: 20, Deadline: 7, Cost: 5}
	for range 2 {
		is(t, []int{0, 1}, a, b)
		is(t, []int{1, 0}, b, a)
		isFit(t, true, a, b)
		isFit(t, false, b, a)
		a.Longest[0], b.Longest[0], b.Longest[7] = 2, 5, 5
	}
	if got := opa.Put([]api.Task{a, b}, []int{1, 0}); got[0] != b || got[1] != a {
		t.Errorf("%+v", got)
	}
}

// random: some tasks that ask for so many hundredths of all time, as it comes.
func random(t *testing.T, r *rand.Rand, many, hundredths int) []api.Task {
	t.Helper()
	var l []api.Task
	scale := []int{6, 20, 100}[r.IntN(3)]
	for range many {
		k := api.Task{Period: 1 + r.IntN(scale)}
		k.Cost = min(1+k.Period*r.IntN(2*hundredths+1)/many/100, k.Period)
		k.Deadline = max(k.Cost, k.Period-r.IntN(2)*r.IntN(k.Period))
		k.Longest[r.IntN(api.MaxRes)] = r.IntN(k.Cost + 1)
		l = append(l, k)
	}
	maybe(t, l)
	return l
}

// P38.1: whatever tasks, held against what is told tick by tick and place by place.
func TestMixture(t *testing.T) {
	r := rand.New(rand.NewPCG(38, 1))
	found, none, turned := 0, 0, 0
	for range 4000 {
		l := random(t, r, r.IntN(17), 20+r.IntN(80))
		want, ok := order(l)
		if !ok {
			none++
			is(t, nil, l...)
		} else {
			found++
			is(t, append([]int{}, want...), l...)
			isFit(t, true, opa.Put(l, want)...)
		}
		if !slices.IsSorted(want) {
			turned++
		}
		isFit(t, fits(l), l...)
	}
	if found < 500 || none < 500 || turned < 200 {
		t.Error(found, none, turned)
	}
}

// P38.3: Order finds one that fits just if there is any; by Tight it fits, if there is any.
func TestFollows(t *testing.T) {
	r := rand.New(rand.NewPCG(38, 3))
	some, none := 0, 0
	for range 1500 {
		l := random(t, r, 1+r.IntN(5), 50+r.IntN(60))
		any := false
		for order := range orders(len(l)) {
			any = any || fits(put(l, order))
		}
		found, ok := opa.Order(l...)
		if ok != any {
			t.Fatalf("Order(%+v): %v, %v", l, found, ok)
		}
		if ok && !fits(put(l, found)) {
			t.Fatalf("Order(%+v): %v doesn't fit", l, found)
		}
		if tight := opa.Tight(l...); fits(put(l, tight)) != any || opa.Fits(opa.Put(l, tight)...) != any {
			t.Fatalf("Tight(%+v): %v", l, tight)
		}
		if any {
			some++
		} else {
			none++
		}
	}
	if some < 300 || none < 300 {
		t.Error(some, none)
	}
}

// P38.1: lists of any length: no more than 4096 tasks can be in time at all.
func TestMany(t *testing.T) {
	l := slices.Repeat([]api.Task{task(4096, 1)}, 4097)
	isFit(t, true, l[:4096]...)
	isFit(t, false, l...)
	is(t, nil, l...)
	is(t, nil, slices.Repeat(l, 10)...)
	if got, ok := opa.Order(l[:4096]...); !ok || len(got) != 4096 || !slices.IsSorted(got) {
		t.Error(got, ok)
	}
	var want []int
	for i := range 200 {
		want = append(want, 199-i)
		l[i] = api.Task{Period: 4096, Deadline: 200 - i, Cost: 1}
	}
	is(t, want, l[:200]...)
	isFit(t, false, l[:200]...)
	l[0].Deadline-- // two that have just 199 ticks
	is(t, nil, l[:200]...)
}

// P38.2: by deadlines alone, of the same as they stand; of tasks of any kind.
func TestTight(t *testing.T) {
	of := func(deadlines ...int) []api.Task {
		var l []api.Task
		for i, n := range deadlines {
			l = append(l, api.Task{Period: 10 - i, Deadline: n, Cost: i % 3})
		}
		return l
	}
	isTight(t, nil)
	isTight(t, []int{0}, of(7)...)
	isTight(t, []int{1, 0}, of(7, 6)...)
	isTight(t, []int{0, 1}, of(6, 7)...)
	isTight(t, []int{0, 1, 2, 3}, of(5, 5, 5, 5)...)
	isTight(t, []int{1, 3, 0, 2, 4}, of(5, 4, 5, 4, 5)...)
	isTight(t, []int{3, 2, 1, 0}, of(9, 8, 7, 6)...)
	isTight(t, []int{4, 3, 1, 2, 5, 0}, of(math.MaxInt, 0, 0, -1, math.MinInt, 4096)...)
	// So many that a sort that isn't stable would show.
	l := slices.Repeat(of(3, 1, 2), 100)
	var want []int
	for _, first := range []int{1, 2, 0} {
		for i := range 100 {
			want = append(want, first+3*i)
		}
	}
	isTight(t, want, l...)
}

// P38.2: the tasks in an order; none, where it doesn't name each place once.
func TestPut(t *testing.T) {
	l := []api.Task{{Period: -1}, {Deadline: 5}, {Cost: math.MaxInt}}
	for order := range orders(3) {
		isPut(t, l, order, put(l, order))
	}
	isPut(t, nil, nil, nil)
	isPut(t, nil, []int{}, nil)
	isPut(t, []api.Task{}, nil, nil)
	isPut(t, l[:1], []int{0}, l[:1])
	for _, wrong := range [][]int{
		nil, {0}, {0, 1}, {0, 1, 2, 3}, {0, 1, 2, 0}, {0, 0, 1}, {0, 1, 1}, {2, 1, 2}, {2, 2, 2}, {1, 2, 3}, {0, 1, 3}, {-1, 0, 1}, {0, 1, -1},
		{0, 1, math.MaxInt}, {math.MinInt, 1, 2}, {0, 1 << 32, 2}, []int{0, 1, 2}[:2], []int{1, 2, 0}[:2],
	} {
		isPut(t, l, wrong, nil)
	}
	isPut(t, nil, []int{0}, nil)
	isPut(t, l[:2], []int{0, 2}, nil) // what lies behind the length is no task
	isPut(t, l[:2], []int{0, 1, 2}, nil)
	same := []api.Task{task(5, 1), task(5, 1)}
	isPut(t, same, []int{1, 1}, nil)
	isPut(t, same, []int{1, 0}, same)
}

// Rule 5: what is answered is new memory.
func TestMemory(t *testing.T) {
	l := []api.Task{task(20, 5), task(4, 2), task(100, 9)}
	given := slices.Clone(l)
	a, _ := opa.Order(l...)
	b, _ := opa.Order(l...)
	clear(a)
	if !slices.Equal(b, []int{1, 0, 2}) {
		t.Error(b)
	}
	a, b = opa.Tight(l...), opa.Tight(l...)
	clear(a)
	if !slices.Equal(b, []int{1, 0, 2}) {
		t.Error(b)
	}
	order := []int{0, 1, 2}
	c, d := opa.Put(l, order), opa.Put(l, order)
	clear(c)
	if !slices.Equal(d, given) || !slices.Equal(l, given) || !slices.Equal(order, []int{0, 1, 2}) {
		t.Error(d, l, order)
	}
	clear(l)
	if !slices.Equal(d, given) {
		t.Error(d)
	}
}

// P1: nothing panics, and all ends, also where nothing is promised.
func TestRaw(t *testing.T) {
	numbers := []int{0, 1, 2, 3, 5, 7, 100, 4096, 4097, 1 << 16, 1 << 20, 1 << 40, 1<<40 + 1, 1 << 62, math.MaxInt, math.MaxInt - 1, -1, -2, -4096, math.MinInt + 1, math.MinInt}
	r := rand.New(rand.NewPCG(38, 5))
	pick := func() int { return numbers[r.IntN(len(numbers))] }
	for range 5000 {
		var l []api.Task
		for range r.IntN(20) {
			k := api.Task{Period: pick(), Deadline: pick(), Cost: pick()}
			k.Longest[r.IntN(api.MaxRes)] = pick()
			l = append(l, k)
		}
		given := slices.Clone(l)
		opa.Fits(l...)
		if got, ok := opa.Order(l...); ok != (len(got) == len(l)) || ok && len(opa.Put(l, got)) != len(l) {
			t.Fatalf("Order(%+v): %v, %v", l, got, ok)
		}
		if len(opa.Put(l, opa.Tight(l...))) != len(l) {
			t.Fatalf("Tight(%+v)", l)
		}
		opa.Put(l, []int{pick(), pick()})
		if !slices.Equal(given, l) {
			t.Fatalf("%+v is changed to %+v", given, l)
		}
	}
	// Work that never ends, with a deadline that is as far as may be.
	full := api.Task{Period: 1 << 40, Deadline: math.MaxInt, Cost: 1}
	opa.Order(full, task(3, 1), task(3, 2), full)
	opa.Fits(task(3, 1), task(3, 2), full)
}
