package server_test

import (
	"math"
	"math/rand/v2"
	"slices"
	"testing"

	"remontoir/api"
	"remontoir/image"
	"remontoir/server"
)

// outside are numbers of no period and no budget.
var outside = []int{0, -1, -2, -4096, 4097, 4098, 1 << 16, 1 << 31, 1 << 32, 1<<32 + 1, -1 << 32, 1 << 62, math.MinInt32, math.MinInt, math.MinInt + 1, math.MaxInt - 1, math.MaxInt}

// wrong are servers that may not be.
var wrong = []server.Server{{}, {Period: 10}, {Budget: 4}, {Period: 10, Budget: 11}, {Period: 10, Budget: -1}, {Period: -10, Budget: 4}, {Period: -10, Budget: -10}, {Period: 4097, Budget: 4097}, {Period: 4097, Budget: 1}, {Period: 4096, Budget: 4097}, {Period: math.MaxInt, Budget: math.MaxInt}, {Period: math.MinInt, Budget: math.MinInt}}

// none: there is no number.
const none = -1

// task: one that has its whole period.
func task(period, cost int) api.Task {
	return api.Task{Period: period, Deadline: period, Cost: cost}
}

// maybe holds that tasks may be.
func maybe(t *testing.T, l []api.Task) {
	t.Helper()
	for some := range slices.Chunk(l, api.MaxTasks) {
		if at, e := image.Check(api.Image{Res: api.MaxRes, Tasks: some, Modes: []api.Mode{{}}}); e != api.OK {
			t.Fatalf("%+v may not be: %d, %v", some, at, e)
		}
	}
}

// gets: does a server get a tick, at the least, when so many have gone by? As the chapter says it.
func gets(s server.Server, now int) bool {
	now -= 2 * (s.Period - s.Budget)
	return now >= 0 && now%s.Period < s.Budget
}

// done: within how many ticks a job of a task is done on a server, behind others that come as fast as they may, told tick by tick.
func done(s server.Server, k api.Task, others []api.Task) int {
	work := k.Cost
	for now := range k.Deadline {
		for _, other := range others {
			if now%other.Period == 0 {
				work += other.Cost
			}
		}
		if gets(s, now) {
			work--
		}
		if work == 0 {
			return now + 1
		}
	}
	return none
}

// fits: as the chapter says it.
func fits(s server.Server, l []api.Task) bool {
	for i, k := range l {
		if done(s, k, l[:i]) == none {
			return false
		}
	}
	return true
}

// isLeast holds what Least answers, each time the same.
func isLeast(t *testing.T, s server.Server, ticks, want int) {
	t.Helper()
	for range 2 {
		if got := s.Least(ticks); got != want {
			t.Errorf("%+v.Least(%d): %d, not %d", s, ticks, got, want)
		}
	}
}

// isWithin holds what Within answers, each time the same.
func isWithin(t *testing.T, s server.Server, work, want int) {
	t.Helper()
	for range 2 {
		if got, ok := s.Within(work); ok != (want != none) || ok && got != want || !ok && got != 0 {
			t.Errorf("%+v.Within(%d): %d, %v, not %d", s, work, got, ok, want)
		}
	}
}

// is holds what Response answers, each time the same.
func is(t *testing.T, s server.Server, want int, k api.Task, others ...api.Task) {
	t.Helper()
	maybe(t, append(slices.Clone(others), k))
	given := slices.Clone(others)
	for range 2 {
		if got, ok := s.Response(k, others...); ok != (want != none) || ok && got != want || !ok && got != 0 {
			t.Errorf("%+v.Response(%+v, %+v): %d, %v, not %d", s, k, others, got, ok, want)
		}
	}
	if !slices.Equal(given, others) {
		t.Errorf("%+v is changed to %+v", given, others)
	}
}

// isFit holds what Fits answers, each time the same.
func isFit(t *testing.T, s server.Server, want bool, l ...api.Task) {
	t.Helper()
	maybe(t, l)
	given := slices.Clone(l)
	for range 2 {
		if got := s.Fits(l...); got != want {
			t.Errorf("%+v.Fits(%+v): %v", s, l, got)
		}
	}
	if !slices.Equal(given, l) {
		t.Errorf("%+v is changed to %+v", given, l)
	}
}

// isBudget holds what Budget answers, each time the same.
func isBudget(t *testing.T, period, want int, l ...api.Task) {
	t.Helper()
	maybe(t, l)
	given := slices.Clone(l)
	for range 2 {
		if got, ok := server.Budget(period, l...); ok != (want != none) || ok && got != want || !ok && got != 0 {
			t.Errorf("Budget(%d, %+v): %d, %v, not %d", period, l, got, ok, want)
		}
	}
	if !slices.Equal(given, l) {
		t.Errorf("%+v is changed to %+v", given, l)
	}
}

// The chapter's examples.
func TestExample(t *testing.T) {
	s := server.Server{Period: 10, Budget: 4}
	isLeast(t, s, 12, 0)
	isLeast(t, s, 14, 2)
	isWithin(t, s, 5, 23)
}

// P56.1: the Period is from 1 to 4096, the Budget from 1 to that.
func TestRight(t *testing.T) {
	right := func(s server.Server, want bool) {
		t.Helper()
		for range 2 {
			if s.Right() != want {
				t.Errorf("%+v.Right(): %v", s, !want)
			}
		}
	}
	for _, period := range []int{1, 2, 3, 10, 4095, 4096} {
		for _, budget := range []int{1, 2, 3, 9, 10, 11, 4095, 4096, 4097} {
			right(server.Server{Period: period, Budget: budget}, budget <= period)
		}
		for _, n := range outside {
			right(server.Server{Period: period, Budget: n}, false)
		}
	}
	for _, period := range outside {
		for _, budget := range append([]int{1, 2, 4096, period}, outside...) {
			right(server.Server{Period: period, Budget: budget}, false)
		}
	}
	for _, s := range wrong {
		right(s, false)
	}
}

// P56.1: all small servers, tick by tick.
func TestSmall(t *testing.T) {
	for period := 1; period < 12; period++ {
		for budget := 1; budget <= period; budget++ {
			s := server.Server{Period: period, Budget: budget}
			work := 0
			isWithin(t, s, 0, 0)
			for now := range 8 * period {
				isLeast(t, s, now, work)
				if gets(s, now) {
					work++
					isWithin(t, s, work, now+1)
				}
			}
		}
	}
}

// P56.1: bounds of Least: of one that may not be, of ticks below 0, and of as many as there are.
func TestLeastBounds(t *testing.T) {
	ticks := []int{math.MinInt, math.MinInt + 1, math.MinInt32, -4096, -2, -1, 0, 1, 2, 14, 4096, 1 << 16, 1 << 40, math.MaxInt - 1, math.MaxInt}
	for _, n := range ticks {
		for _, s := range wrong {
			isLeast(t, s, n, 0)
		}
		isLeast(t, server.Server{Period: 1, Budget: 1}, n, max(n, 0))
		isLeast(t, server.Server{Period: 4096, Budget: 4096}, n, max(n, 0))
	}
	for _, n := range ticks[:7] {
		isLeast(t, server.Server{Period: 10, Budget: 4}, n, 0)
	}
	s := server.Server{Period: 4096, Budget: 1}
	for _, c := range [][2]int{{8190, 0}, {8191, 1}, {8192, 1}, {8190 + 4096, 1}, {8191 + 4096, 2}, {8190 + 4096*4096, 4096}, {8191 + 4096*4096, 4097}} {
		isLeast(t, s, c[0], c[1])
	}
	isLeast(t, server.Server{Period: 2, Budget: 1}, math.MaxInt, math.MaxInt/2) // the first two ticks give none, the last one does
	isLeast(t, server.Server{Period: 2, Budget: 1}, math.MaxInt-1, math.MaxInt/2-1)
	isLeast(t, server.Server{Period: 4096, Budget: 4095}, math.MaxInt, (math.MaxInt/4096)*4095+4093)
}

// P56.1: bounds of Within: of one that may not be, of work that isn't from 0 to MaxWindow, and where it would be longer than that.
func TestWithinBounds(t *testing.T) {
	for _, work := range []int{0, 1, 5, 1 << 16} {
		for _, s := range wrong {
			isWithin(t, s, work, none)
		}
	}
	for _, s := range []server.Server{{Period: 1, Budget: 1}, {Period: 10, Budget: 4}, {Period: 4096, Budget: 4096}, {Period: 4096, Budget: 1}} {
		for _, work := range []int{-1, -2, math.MinInt, 1<<16 + 1, 1 << 17, 1 << 40, math.MaxInt} {
			isWithin(t, s, work, none)
		}
		isWithin(t, s, 0, 0)
	}
	for _, period := range []int{1, 7, 4095, 4096} {
		s := server.Server{Period: period, Budget: period}
		for _, work := range []int{1, 2, 4095, 4096, 4097, 1<<16 - 1, 1 << 16} {
			isWithin(t, s, work, work)
		}
	}
	for _, c := range []struct {
		s          server.Server
		work, want int
	}{
		{server.Server{Period: 4096, Budget: 1}, 1, 8191},
		{server.Server{Period: 4096, Budget: 1}, 15, 65535},
		{server.Server{Period: 4096, Budget: 1}, 16, none},
		{server.Server{Period: 2, Budget: 1}, 32767, 65535},
		{server.Server{Period: 2, Budget: 1}, 32768, none},
		{server.Server{Period: 3, Budget: 2}, 43689, 65535},
		{server.Server{Period: 3, Budget: 2}, 43690, 65536}, // just MaxWindow
		{server.Server{Period: 3, Budget: 2}, 43691, none},
		{server.Server{Period: 4096, Budget: 4095}, 65519, 65536},
		{server.Server{Period: 4096, Budget: 4095}, 65520, none},
		{server.Server{Period: 3, Budget: 2}, 1 << 16, none},
	} {
		isWithin(t, c.s, c.work, c.want)
	}
}

// P56.1: whatever server: within just so many ticks it gets the work, and in one less it doesn't.
func TestInverse(t *testing.T) {
	r := rand.New(rand.NewPCG(56, 1))
	found := 0
	for range 20000 {
		s := server.Server{Period: 1 + r.IntN([]int{10, 100, 4096}[r.IntN(3)])}
		s.Budget = 1 + r.IntN(s.Period)
		work := 1 + r.IntN([]int{10, 1000, 1 << 16}[r.IntN(3)])
		n, ok := s.Within(work)
		if !ok {
			if s.Least(api.MaxWindow) >= work {
				t.Fatalf("%+v.Within(%d): none", s, work)
			}
			continue
		}
		found++
		if s.Least(n) != work || s.Least(n-1) != work-1 || n > api.MaxWindow {
			t.Fatalf("%+v.Within(%d): %d", s, work, n)
		}
	}
	if found < 10000 {
		t.Error(found)
	}
}

// P56.1: so many ticks are really the least: wherever in each period the budget comes, no time gets fewer, and some time gets just so many.
func TestAtTheLeast(t *testing.T) {
	r := rand.New(rand.NewPCG(56, 2))
	for period := 1; period < 6; period++ {
		for budget := 1; budget <= period; budget++ {
			s := server.Server{Period: period, Budget: budget}
			just := make([]bool, 3*period)
			for range 3000 {
				var has []bool
				for range 4 {
					round := make([]bool, period)
					for _, now := range r.Perm(period)[:budget] {
						round[now] = true
					}
					has = append(has, round...)
				}
				for ticks := range just {
					from := r.IntN(len(has) - ticks + 1)
					got := 0
					for _, is := range has[from : from+ticks] {
						if is {
							got++
						}
					}
					if got < s.Least(ticks) {
						t.Fatalf("%+v: in %d ticks only %d", s, ticks, got)
					}
					just[ticks] = just[ticks] || got == s.Least(ticks)
				}
			}
			if slices.Contains(just, false) && period < 4 {
				t.Errorf("%+v: %v", s, just)
			}
		}
	}
}

// P56.2: numbers told by hand.
func TestResponse(t *testing.T) {
	s := server.Server{Period: 10, Budget: 4}
	a, b := task(40, 2), task(50, 4)
	is(t, s, 14, a)
	is(t, s, 16, b)
	is(t, s, 24, b, a)
	is(t, s, 25, b, a, api.Task{Period: 40, Deadline: 1, Cost: 1}) // whether others are in time doesn't count
	is(t, s, 26, b, a, task(26, 1), task(26, 1))                   // eight ticks, just two budgets
	is(t, s, 34, b, a, task(25, 1), task(25, 1))                   // once more one of each, in the tick 25: ten
	is(t, s, 24, task(40, 2), task(40, 4))
	b.Deadline = 24
	is(t, s, 24, b, a)
	b.Deadline = 23 // one tick too few
	is(t, s, none, b, a)
	b.Deadline = 15 // so it has not even time for itself
	is(t, s, none, b)
	b.Deadline = 16
	is(t, s, 16, b)
	is(t, s, none, b, a)
}

// P56.2: on a server that gets all ticks a job takes as long as without; on one that may not be there is none.
func TestWhole(t *testing.T) {
	for _, s := range []server.Server{{Period: 1, Budget: 1}, {Period: 7, Budget: 7}, {Period: 4096, Budget: 4096}} {
		is(t, s, 1, task(1, 1))
		is(t, s, 4096, task(4096, 4096))
		is(t, s, none, task(4096, 4096), task(4096, 1))
		is(t, s, none, task(4096, 1), task(1, 1))
		is(t, s, 7, task(20, 5), task(10, 2))
		is(t, s, 4096, task(4096, 2048), task(2, 1))
		is(t, s, none, task(4096, 2049), task(2, 1))
		isFit(t, s, true, task(2, 1), task(4096, 2048))
		isFit(t, s, false, task(2, 1), task(4096, 2049))
	}
	for _, s := range wrong {
		is(t, s, none, task(4096, 1))
		isFit(t, s, false, task(4096, 1))
	}
	is(t, server.Server{Period: 4096, Budget: 1}, none, task(4096, 1)) // 8191
	is(t, server.Server{Period: 2048, Budget: 1}, 4095, task(4096, 1))
	is(t, server.Server{Period: 2048, Budget: 1}, none, task(4096, 2))
}

// P56.2: each task of the list behind those ahead of it; of none nobody is late.
func TestFits(t *testing.T) {
	s := server.Server{Period: 10, Budget: 4}
	a, b := task(40, 2), task(50, 4)
	for _, s := range append([]server.Server{s}, wrong...) {
		isFit(t, s, true)
	}
	isFit(t, s, true, a)
	isFit(t, s, true, a, b)
	isFit(t, s, true, b, a)
	b.Deadline = 23
	isFit(t, s, false, a, b)
	isFit(t, s, true, b, a)
	isFit(t, s, false, task(13, 2)) // 14 ticks
	isFit(t, s, false, task(13, 2), b, a)
	isFit(t, s, false, b, a, task(13, 2))
	isFit(t, s, true, task(14, 2))
	long := slices.Repeat([]api.Task{task(4096, 8)}, 513)
	isFit(t, server.Server{Period: 1, Budget: 1}, true, long[:512]...)
	isFit(t, server.Server{Period: 1, Budget: 1}, false, long...)
	isFit(t, server.Server{Period: 2, Budget: 1}, true, long[:255]...) // 4081 ticks
	isFit(t, server.Server{Period: 2, Budget: 1}, false, long[:256]...)
}

// What tasks hold doesn't count.
func TestLongest(t *testing.T) {
	s := server.Server{Period: 10, Budget: 4}
	a, b := task(40, 2), task(50, 4)
	a.Longest[0], b.Longest[0], b.Longest[7] = 2, 4, 4
	is(t, s, 24, b, a)
	is(t, s, 14, a)
	isFit(t, s, true, a, b)
	isBudget(t, 10, 1, a)
}

// P56.3: the least one that does, from 1 up to the whole period.
func TestBudget(t *testing.T) {
	a, b := task(40, 2), task(50, 4)
	isBudget(t, 10, 1, a) // 18 ticks none, then one, and one ten ticks later: 29
	a.Deadline = 29
	isBudget(t, 10, 1, a)
	a.Deadline = 28
	isBudget(t, 10, 2, a)
	a.Deadline = 3
	isBudget(t, 10, 10, a) // of nine the first two ticks get none
	a.Deadline = 4
	isBudget(t, 10, 9, a)
	isBudget(t, 10, none, a, a, a)
	isBudget(t, 10, 1, b) // 49
	b.Deadline = 48
	isBudget(t, 10, 2, b)
	isBudget(t, 1, 1, b)
	isBudget(t, 1, 1, task(1, 1))
	isBudget(t, 1, none, task(1, 1), b)
	isBudget(t, 4096, 4096, task(1, 1))
	isBudget(t, 4096, 4096, task(4096, 4096))
	isBudget(t, 4096, 4095, api.Task{Period: 4096, Deadline: 3, Cost: 1})
	isBudget(t, 4096, 4096, api.Task{Period: 4096, Deadline: 2, Cost: 1})
	isBudget(t, 4096, 2049, task(4096, 1)) // twice 2047, and one
	isBudget(t, 4096, 2049, task(4096, 2))
	isBudget(t, 4096, 2050, task(4096, 3))
	isBudget(t, 2, 1, task(4096, 2047))
	isBudget(t, 2, 2, task(4096, 2048))
	isBudget(t, 2, none, task(4096, 4096), task(4096, 1))
}

// P56.3: of a period that is none there is none; of no tasks each server does.
func TestBudgetPeriods(t *testing.T) {
	for _, period := range outside {
		isBudget(t, period, none)
		isBudget(t, period, none, task(4096, 1))
	}
	for _, period := range []int{1, 2, 4095, 4096} {
		isBudget(t, period, 1)
	}
}

// P56.3: as a task, whatever the server.
func TestTask(t *testing.T) {
	for _, s := range append([]server.Server{{Period: 10, Budget: 4}, {Period: 1, Budget: 1}, {Period: 4096, Budget: 1}}, wrong...) {
		want := api.Task{Period: s.Period, Deadline: s.Period, Cost: s.Budget}
		for range 2 {
			if got := s.Task(); got != want {
				t.Errorf("%+v.Task(): %+v", s, got)
			}
		}
	}
	maybe(t, []api.Task{server.Server{Period: 10, Budget: 4}.Task(), server.Server{Period: 4096, Budget: 4096}.Task(), server.Server{Period: 1, Budget: 1}.Task()})
}

// random: some tasks that ask for so many hundredths of all time, as it comes.
func random(r *rand.Rand, many, hundredths int) []api.Task {
	var l []api.Task
	scale := []int{20, 60, 400}[r.IntN(3)]
	for range many {
		k := api.Task{Period: 1 + r.IntN(scale)}
		k.Cost = min(1+k.Period*r.IntN(2*hundredths+1)/many/100, k.Period)
		k.Deadline = max(k.Cost, k.Period-r.IntN(2)*r.IntN(k.Period))
		k.Longest[r.IntN(api.MaxRes)] = r.IntN(k.Cost + 1)
		l = append(l, k)
	}
	return l
}

// P56.2, P56.3: whatever servers and tasks, told tick by tick, and each budget looked for from 1 on.
func TestMixture(t *testing.T) {
	r := rand.New(rand.NewPCG(56, 3))
	responses, late, fit, budgets, no := 0, 0, 0, 0, 0
	for range 1500 {
		l := random(r, 1+r.IntN(5), 5+r.IntN(60))
		s := server.Server{Period: 1 + r.IntN(30)}
		s.Budget = 1 + r.IntN(s.Period)
		for i, k := range l {
			n := done(s, k, l[:i])
			is(t, s, n, k, l[:i]...)
			if n == none {
				late++
			} else {
				responses++
			}
		}
		ok := fits(s, l)
		isFit(t, s, ok, l...)
		if ok {
			fit++
		}
		want := none
		for budget := s.Period; budget > 0; budget-- {
			if fits(server.Server{Period: s.Period, Budget: budget}, l) {
				want = budget
			}
		}
		isBudget(t, s.Period, want, l...)
		if want == none {
			no++
		} else {
			budgets++
		}
	}
	if responses < 500 || late < 500 || fit < 100 || budgets < 300 || no < 100 {
		t.Error(responses, late, fit, budgets, no)
	}
}

// Others of whose work layer 16 has no number, or which is too great with the job's own: nothing is promised, but no job is told to be in time.
func TestRefused(t *testing.T) {
	s := server.Server{Period: 1, Budget: 1}
	for _, other := range []api.Task{{Period: 0, Cost: 1}, {Period: -1, Cost: 1}, {Period: 9, Cost: -1}, {Period: 9, Cost: 1<<40 + 1}, {Period: 9, Cost: 1 << 40}, {Period: 9, Cost: math.MaxInt}} {
		if n, ok := s.Response(task(100, 2), other); n != 0 || ok {
			t.Errorf("Response behind %+v: %d, %v", other, n, ok)
		}
	}
}

// P1: nothing panics, and all ends, also where nothing is promised.
func TestRaw(t *testing.T) {
	numbers := append([]int{1, 2, 3, 5, 7, 100, 4095, 4096, 1 << 20, 1 << 40, 1<<40 + 1}, outside...)
	r := rand.New(rand.NewPCG(56, 5))
	pick := func() int { return numbers[r.IntN(len(numbers))] }
	for range 5000 {
		var l []api.Task
		for range 1 + r.IntN(10) {
			k := api.Task{Period: pick(), Deadline: pick(), Cost: pick()}
			k.Longest[r.IntN(api.MaxRes)] = pick()
			l = append(l, k)
		}
		given := slices.Clone(l)
		s := server.Server{Period: pick(), Budget: pick()}
		if n, ok := s.Response(l[0], l[1:]...); !ok && n != 0 {
			t.Fatalf("%+v.Response(%+v): %d", s, l, n)
		}
		s.Fits(l...)
		if n, ok := server.Budget(s.Period, l...); !ok && n != 0 || ok && (n < 1 || n > s.Period) {
			t.Fatalf("Budget(%d, %+v): %d, %v", s.Period, l, n, ok)
		}
		if !slices.Equal(given, l) {
			t.Fatalf("%+v is changed to %+v", given, l)
		}
	}
	// Work that never ends, with a deadline that is as far as may be.
	s := server.Server{Period: 1, Budget: 1}
	if n, ok := s.Response(api.Task{Period: 1, Deadline: math.MaxInt, Cost: 1}, task(1, 1)); n != 0 || ok {
		t.Error(n, ok)
	}
}
