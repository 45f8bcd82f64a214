package demand_test

import (
	"math"
	"math/rand/v2"
	"slices"
	"testing"

	"remontoir/api"
	"remontoir/demand"
	"remontoir/mask"
)

const most = 1 << 40

// none are numbers with which layer 2 doesn't reckon.
var none = []int{-1, -2, -most, math.MinInt, most + 1, 2 * most, 1 << 62, math.MaxInt}

// some are numbers with which it does, the bounds among them.
var some = []int{0, 1, 2, 5, 4096, 1 << 20, 1 << 39, most - 1, most}

// isJobs holds what Jobs answers, each time the same.
func isJobs(t *testing.T, k demand.Term, ticks, want int, ok bool) {
	t.Helper()
	for range 2 {
		if got, is := k.Jobs(ticks); got != want || is != ok {
			t.Errorf("%+v.Jobs(%d): %d, %v, not %d, %v", k, ticks, got, is, want, ok)
		}
	}
}

// isWork holds what Work of a term answers, and of it alone in a list.
func isWork(t *testing.T, k demand.Term, ticks, want int, ok bool) {
	t.Helper()
	for range 2 {
		if got, is := k.Work(ticks); got != want || is != ok {
			t.Errorf("%+v.Work(%d): %d, %v, not %d, %v", k, ticks, got, is, want, ok)
		}
		if got, is := demand.Work(ticks, k); got != want || is != ok {
			t.Errorf("Work(%d, %+v): %d, %v, not %d, %v", ticks, k, got, is, want, ok)
		}
	}
}

// comings: when jobs come, from 0 on, ahead of an end, told one by one.
func comings(k demand.Term, end int) []int {
	var l []int
	for now := k.Offset; now < end; now += k.Period {
		l = append(l, now)
	}
	return l
}

// P16.1, P16.3: small terms, each held against the jobs themselves.
func TestSmall(t *testing.T) {
	for period := 1; period < 8; period++ {
		for offset := range 12 {
			for cost := range 4 {
				for carry := range 3 {
					k := demand.Term{Period: period, Cost: cost, Offset: offset, Carry: carry}
					last := 0
					for ticks := range 40 {
						l := comings(k, ticks)
						isJobs(t, k, ticks, len(l), true)
						work := carry
						for range l {
							work += cost
						}
						isWork(t, k, ticks, work, true)
						if work < last {
							t.Errorf("%+v: in %d ticks less comes", k, ticks)
						}
						last = work
					}
				}
			}
		}
	}
}

// P16.1: at the bounds of what layer 2 reckons with.
func TestBounds(t *testing.T) {
	for _, c := range []struct {
		k     demand.Term
		ticks int
		want  int
		ok    bool
	}{
		{demand.Term{Period: 1}, most, most, true},
		{demand.Term{Period: most}, most, 1, true},
		{demand.Term{Period: most - 1}, most, 2, true},
		{demand.Term{Period: 1, Offset: most}, most, 0, true},
		{demand.Term{Period: 1, Offset: most - 1}, most, 1, true},
		{demand.Term{Period: 1, Offset: 5}, 4, 0, true},
		{demand.Term{Period: 1, Offset: 5}, 5, 0, true},
		{demand.Term{Period: 1, Offset: 5}, 6, 1, true},
		{demand.Term{Period: 3, Offset: most}, 0, 0, true},
		{demand.Term{}, 0, 0, false},
		{demand.Term{}, 7, 0, false},
		{demand.Term{Offset: 9}, 7, 0, false},
		{demand.Term{Period: -1}, 7, 0, false},
		{demand.Term{Period: most + 1}, 7, 0, false},
		{demand.Term{Period: 1, Offset: -1}, 7, 0, false},
		{demand.Term{Period: 1, Offset: most + 1}, 7, 0, false},
		{demand.Term{Period: 1}, -1, 0, false},
		{demand.Term{Period: 1}, most + 1, 0, false},
	} {
		isJobs(t, c.k, c.ticks, c.want, c.ok)
	}
	for _, c := range []struct {
		k     demand.Term
		ticks int
		want  int
		ok    bool
	}{
		{demand.Term{Period: 1, Cost: 1}, most, most, true},
		{demand.Term{Period: 1, Cost: 1, Carry: 1}, most - 1, most, true},
		{demand.Term{Period: 1, Cost: 1, Carry: 1}, most, 0, false},
		{demand.Term{Period: 1, Cost: 1 << 20}, 1 << 20, most, true},
		{demand.Term{Period: 1, Cost: 1 << 20}, 1<<20 + 1, 0, false},
		{demand.Term{Period: 1, Cost: 1 << 20, Offset: 1}, 1<<20 + 1, most, true},
		{demand.Term{Period: 1, Cost: 1 << 32}, 1 << 32, 0, false}, // wrapped round 0
		{demand.Term{Period: 1, Cost: most}, 0, 0, true},
		{demand.Term{Period: 1, Cost: most}, 1, most, true},
		{demand.Term{Period: 1, Cost: most}, 2, 0, false},
		{demand.Term{Period: 1, Cost: most, Carry: 1}, 1, 0, false},
		{demand.Term{Period: 1, Carry: most}, most, most, true},
		{demand.Term{Period: 1, Carry: most + 1}, 0, 0, false},
		{demand.Term{Period: 1, Carry: -1}, 5, 0, false},
		{demand.Term{Period: 1, Carry: -1, Cost: 3}, 5, 0, false},
		{demand.Term{Period: 1, Cost: -1}, 0, 0, false}, // though none comes
		{demand.Term{Period: 1, Cost: -1, Offset: 9}, 5, 0, false},
		{demand.Term{Period: 1, Cost: most + 1}, 0, 0, false},
		{demand.Term{Carry: 5}, 3, 0, false},
	} {
		isWork(t, c.k, c.ticks, c.want, c.ok)
	}
}

// P16.1, P1: 0 and false, wherever a number is none.
func TestNoNumbers(t *testing.T) {
	for _, bad := range none {
		for _, n := range some {
			k := demand.Term{Period: n, Cost: n, Offset: n, Carry: n}
			isJobs(t, k, bad, 0, false)
			isWork(t, k, bad, 0, false)
			for _, ticks := range append([]int{n}, some...) {
				for i := range 4 {
					one := k
					*[]*int{&one.Period, &one.Offset, &one.Cost, &one.Carry}[i] = bad
					if i < 2 { // the other two count for nothing in Jobs
						isJobs(t, one, ticks, 0, false)
					}
					isWork(t, one, ticks, 0, false)
				}
			}
		}
	}
}

// P16.1: Cost and Carry count for nothing in Jobs.
func TestJobsAlone(t *testing.T) {
	for _, bad := range none {
		isJobs(t, demand.Term{Period: 5, Cost: bad, Offset: 1, Carry: bad}, 12, 3, true)
	}
}

// P16.1: of several the sum; of none 0, in however many ticks.
func TestWorkOfSeveral(t *testing.T) {
	for _, ticks := range slices.Concat(some, none) {
		if n, ok := demand.Work(ticks); n != 0 || !ok {
			t.Errorf("Work(%d) of none: %d, %v", ticks, n, ok)
		}
		if n, ok := demand.Work(ticks, []demand.Term{}...); n != 0 || !ok {
			t.Errorf("Work(%d) of none: %d, %v", ticks, n, ok)
		}
	}
	whole, half := demand.Term{Period: 1, Carry: most}, demand.Term{Period: 1, Carry: 1 << 39}
	nothing, one, wrong := demand.Term{Period: 1}, demand.Term{Period: 1, Carry: 1}, demand.Term{Carry: 1}
	for _, c := range []struct {
		l    []demand.Term
		want int
		ok   bool
	}{
		{[]demand.Term{whole, nothing, nothing}, most, true},
		{[]demand.Term{half, half}, most, true},
		{[]demand.Term{half, nothing, half, nothing}, most, true},
		{[]demand.Term{half, half, one}, 0, false},
		{[]demand.Term{one, whole}, 0, false},
		{[]demand.Term{whole, whole, whole}, 0, false},
		{[]demand.Term{wrong}, 0, false},
		{[]demand.Term{wrong, one}, 0, false},
		{[]demand.Term{one, wrong}, 0, false},
		{[]demand.Term{one, wrong, one}, 0, false},
		{[]demand.Term{nothing, wrong, wrong}, 0, false},
	} {
		given := slices.Clone(c.l)
		for range 2 {
			if n, ok := demand.Work(0, c.l...); n != c.want || ok != c.ok {
				t.Errorf("Work(0, %+v): %d, %v, not %d, %v", c.l, n, ok, c.want, c.ok)
			}
		}
		if !slices.Equal(given, c.l) {
			t.Errorf("%+v is changed to %+v", given, c.l)
		}
	}
	// What lies behind the length isn't read.
	l := []demand.Term{one, wrong}
	if n, ok := demand.Work(3, l[:1]...); n != 1 || !ok {
		t.Error(n, ok)
	}
}

// P16.1, P16.3: whatever terms there are, together as much as each by itself; in more ticks no less.
func TestMixture(t *testing.T) {
	r := rand.New(rand.NewPCG(16, 1))
	for range 3000 {
		l := make([]demand.Term, r.IntN(9))
		for i := range l {
			l[i] = demand.Term{Period: 1 + r.IntN(4096), Cost: r.IntN(4097), Offset: r.IntN(1<<14 + 1), Carry: r.IntN(5000)}
		}
		last := 0
		for ticks := 0; ticks < 1<<17; ticks += 1 + r.IntN(1<<14) {
			want := 0
			for _, k := range l {
				came := comings(k, ticks)
				if len(came) > 0 && came[len(came)-1] >= ticks {
					t.Fatalf("%+v: the last job comes behind the end", k)
				}
				isJobs(t, k, ticks, len(came), true)
				want += len(came)*k.Cost + k.Carry
			}
			if n, ok := demand.Work(ticks, l...); n != want || !ok || n < last {
				t.Fatalf("Work(%d, %+v): %d, %v, not %d", ticks, l, n, ok, want)
			}
			last = want
		}
	}
}

// P16.2: Period and Cost as they are, whatever they are; the offset; no Carry.
func TestOf(t *testing.T) {
	for _, n := range slices.Concat(some, none) {
		for _, offset := range slices.Concat(some, none) {
			k := api.Task{Period: n, Deadline: 77, Cost: 3 - n, Longest: [8]int{1, 2, 3, 4, 5, 6, 7, 8}}
			for range 2 {
				if got := demand.Of(k, offset); got != (demand.Term{Period: n, Cost: 3 - n, Offset: offset}) {
					t.Errorf("Of(%+v, %d): %+v", k, offset, got)
				}
			}
		}
	}
}

// tasks: an image of so many tasks, no two alike.
func tasks(many int) api.Image {
	x := api.Image{Tasks: make([]api.Task, many)}
	for i := range x.Tasks {
		x.Tasks[i] = api.Task{Period: 100 + i, Deadline: 50, Cost: 10 + i}
	}
	return x
}

// P16.2: of the set's tasks that the image has, rising.
func TestTerms(t *testing.T) {
	for _, many := range []int{0, 1, 2, 5, 15, 16, 17, 31, 32, 33, 100} {
		x := tasks(many)
		for _, s := range []mask.Set{0, 1, 2, 5, 0x8000, 0xffff, 0x10000, 0xaaaaaaaa, 1 << 31, 0xffffffff} {
			var want []demand.Term
			for n := range 32 {
				if uint32(s)>>n&1 == 1 && n < many {
					want = append(want, demand.Term{Period: 100 + n, Cost: 10 + n})
				}
			}
			for range 2 {
				if got := demand.Terms(x, s); !slices.Equal(got, want) {
					t.Errorf("%d tasks, %x: %+v, not %+v", many, s, got, want)
				}
			}
		}
	}
	// What lies behind the length is no task.
	x := tasks(5)
	x.Tasks = x.Tasks[:2]
	if got := demand.Terms(x, 0x1f); len(got) != 2 {
		t.Errorf("%+v", got)
	}
}

// Rule 5: what is answered is new memory, and the image stays.
func TestMemory(t *testing.T) {
	x := tasks(3)
	a, b := demand.Terms(x, 7), demand.Terms(x, 7)
	a[0], a[2] = demand.Term{}, demand.Term{}
	_ = append(a[:1], demand.Term{Carry: 9})
	if !slices.Equal(b, demand.Terms(x, 7)) || b[0] != (demand.Term{Period: 100, Cost: 10}) || !slices.Equal(x.Tasks, tasks(3).Tasks) {
		t.Error("lists share something")
	}
}

// The chapter's example.
func TestExample(t *testing.T) {
	k := demand.Term{Period: 5, Cost: 2, Offset: 1}
	isJobs(t, k, 6, 1, true)
	isWork(t, k, 7, 4, true)
}
