package guard_test

import (
	"math"
	"math/rand/v2"
	"testing"

	"remontoir/guard"
	"remontoir/mask"
)

// none are numbers of no task.
var none = []int{-1, -2, -15, -16, -17, 16, 17, 31, 32, 33, 64, 255, 256, 1 << 31, 1 << 32, 1<<32 + 1, -1 << 32, math.MinInt32, math.MinInt, math.MinInt + 1, math.MaxInt - 1, math.MaxInt}

const far = 1 << 40

// model is a guard told in another way: all of the jobs that came.
type model struct {
	last    [16]int // when the last job came
	gap     [16]int // how long no other one may come; 0: none came
	refused [16]int
}

// from: the first tick of all at which a job may come.
func (m *model) from(task int) int {
	if task < 0 || task > 15 {
		return 0
	}
	return m.last[task] + m.gap[task]
}

func (m *model) dropped(task int) int {
	if task < 0 || task > 15 {
		return 0
	}
	return min(m.refused[task], 4096)
}

func (m *model) may(task, now int) bool {
	return task >= 0 && task <= 15 && now-m.from(task) >= 0
}

func (m *model) came(task, now, period int) bool {
	switch {
	case task < 0 || task > 15:
		return false
	case now < m.from(task):
		m.refused[task]++
		return false
	}
	switch {
	case period < 1:
		period = 1
	case period > 4096:
		period = 4096
	}
	m.last[task], m.gap[task] = now, period
	return true
}

// hold holds all that a guard answers against a model.
func hold(t *testing.T, g *guard.Guard, m *model, now int) {
	t.Helper()
	var open mask.Set
	for task := -3; task < 40; task++ {
		if g.From(task) != m.from(task) || g.Dropped(task) != m.dropped(task) {
			t.Fatalf("task %d: from %d, dropped %d, not %d, %d", task, g.From(task), g.Dropped(task), m.from(task), m.dropped(task))
		}
		for _, at := range []int{now, m.from(task) - 1, m.from(task), m.from(task) + 1, -1, 0, far} {
			if got, want := g.May(task, at), m.may(task, at); got != want {
				t.Fatalf("May(%d, %d): %v, not %v", task, at, got, want)
			}
		}
		if m.may(task, now) {
			open |= 1 << task
		}
	}
	for _, s := range []mask.Set{0, 1, 0x5555, 0xffff, 0xffff0000, 0xaaaaaaaa, 0xffffffff} {
		if got := g.Open(s, now); got != open&s {
			t.Fatalf("Open(%x, %d): %x, not %x", s, now, got, open&s)
		}
	}
}

// came holds what Came answers against a model.
func came(t *testing.T, g *guard.Guard, m *model, task, now, period int) {
	t.Helper()
	if got, want := g.Came(task, now, period), m.came(task, now, period); got != want {
		t.Fatalf("Came(%d, %d, %d): %v, not %v", task, now, period, got, want)
	}
	hold(t, g, m, now)
}

// The chapter's words: of the zero value all jobs may come from the tick 0 on, and no earlier.
func TestZero(t *testing.T) {
	g := guard.Guard{}
	for task := range 16 {
		if !g.May(task, 0) || !g.May(task, 1) || !g.May(task, far) || g.May(task, -1) || g.May(task, math.MinInt) || g.From(task) != 0 || g.Dropped(task) != 0 {
			t.Errorf("task %d: from %d, dropped %d", task, g.From(task), g.Dropped(task))
		}
	}
	if g.Open(0xffffffff, 0) != 0xffff || g.Open(0xffffffff, -1) != 0 || g.Open(0xffffffff, far) != 0xffff {
		t.Error(g.Open(0xffffffff, 0))
	}
	m := &model{}
	hold(t, &g, m, 0)
	came(t, &g, m, 3, -1, 5) // too early: one was dropped
	came(t, &g, m, 3, math.MinInt, 5)
	came(t, &g, m, 3, 0, 5)
}

// P24.1: each task by itself, at its tick, one ahead of it, one behind it.
func TestCame(t *testing.T) {
	for task := range 16 {
		g, m := &guard.Guard{}, &model{}
		for _, now := range []int{5, 5, 14, 15, 24, 26, 35, 36, 36, 0, -7, 100, 109, 110, 111, 120} {
			came(t, g, m, task, now, 10)
		}
		if g.Dropped(task) != 9 || g.From(task) != 130 {
			t.Errorf("task %d: dropped %d, from %d", task, g.Dropped(task), g.From(task))
		}
		for other := range 16 {
			if other != task && (g.From(other) != 0 || g.Dropped(other) != 0) {
				t.Errorf("task %d: of %d from %d, dropped %d", task, other, g.From(other), g.Dropped(other))
			}
		}
	}
}

// P24.1: the period is taken from 1 to 4096.
func TestPeriod(t *testing.T) {
	for _, c := range []struct{ period, taken int }{{1, 1}, {2, 2}, {4095, 4095}, {4096, 4096}, {0, 1}, {-1, 1}, {-4096, 1}, {math.MinInt, 1}, {4097, 4096}, {1 << 16, 4096}, {1 << 32, 4096}, {math.MaxInt, 4096}} {
		for _, now := range []int{0, 1, 77, far - 1, far} {
			g := guard.Guard{}
			if !g.Came(7, now, c.period) || g.From(7) != now+c.taken {
				t.Errorf("Came(7, %d, %d): from %d", now, c.period, g.From(7))
			}
			if g.May(7, now+c.taken-1) || !g.May(7, now+c.taken) {
				t.Errorf("Came(7, %d, %d): May", now, c.period)
			}
		}
	}
}

// P24.1: the period that counts is that of the job that came, not of one that didn't.
func TestPeriodOfDropped(t *testing.T) {
	g := guard.Guard{}
	if !g.Came(1, 0, 10) || g.Came(1, 5, 100) || g.Came(1, 6, 1) || g.From(1) != 10 || !g.Came(1, 10, 3) || g.From(1) != 13 {
		t.Error(g.From(1))
	}
}

// P24.1, P24.2: at most 4096 are counted, and those alone that may not come.
func TestDropped(t *testing.T) {
	g, m := &guard.Guard{}, &model{}
	came(t, g, m, 15, 100, 4096)
	for i := range 5000 {
		if g.Came(15, i%100, 1) || g.Dropped(15) != min(i+1, 4096) {
			t.Fatalf("the time %d: dropped %d", i, g.Dropped(15))
		}
		m.refused[15]++
	}
	hold(t, g, m, 4196)
	came(t, g, m, 15, 4195, 1)
	came(t, g, m, 15, 4196, 1)
	if g.Dropped(15) != 4096 || g.Dropped(14) != 0 {
		t.Error(g.Dropped(15), g.Dropped(14))
	}
}

// P24.1, P24.2, rules 4 and 6: there is no such task, and nothing has changed.
func TestNone(t *testing.T) {
	g, m := &guard.Guard{}, &model{}
	came(t, g, m, 0, 3, 9)
	came(t, g, m, 0, 4, 9)
	came(t, g, m, 15, 6, 9)
	for _, bad := range none {
		for _, now := range []int{math.MinInt, -1, 0, 5, 20, far} {
			for range 2 {
				if g.May(bad, now) || g.Came(bad, now, 10) || g.From(bad) != 0 || g.Dropped(bad) != 0 {
					t.Errorf("task %d at %d: from %d, dropped %d", bad, now, g.From(bad), g.Dropped(bad))
				}
			}
		}
	}
	hold(t, g, m, 7)
}

// P24.2: Open tells of the tasks of the set alone, and changes nothing.
func TestOpen(t *testing.T) {
	g := guard.Guard{}
	for task := range 16 {
		g.Came(task, 0, task+1)
	}
	for now := -1; now < 20; now++ {
		var open mask.Set
		for task := range 16 {
			if now > task {
				open |= 1 << task
			}
		}
		for _, s := range []mask.Set{0, 1, 1 << 15, 1 << 16, 0x00ff, 0xff00, 0xffff, 0xffffffff} {
			if got := g.Open(s, now); got != s&open {
				t.Errorf("Open(%x, %d): %x, not %x", s, now, got, s&open)
			}
		}
	}
	if g.From(3) != 4 || g.Dropped(3) != 0 {
		t.Error(g.From(3), g.Dropped(3))
	}
}

// P2: two guards don't meet, neither when one is copied.
func TestApart(t *testing.T) {
	a := guard.Guard{}
	a.Came(2, 0, 10)
	b := a
	b.Came(2, 10, 10)
	b.Came(2, 10, 10)
	if a.From(2) != 10 || a.Dropped(2) != 0 || b.From(2) != 20 || b.Dropped(2) != 1 {
		t.Error(a.From(2), a.Dropped(2), b.From(2), b.Dropped(2))
	}
}

// P24.1 to P24.3: whatever comes, jobs of a task are never less than the period of the first one apart.
func TestMixture(t *testing.T) {
	for seed := range uint64(30) {
		r := rand.New(rand.NewPCG(24, seed))
		g, m := &guard.Guard{}, &model{}
		last, period := map[int]int{}, map[int]int{}
		now := r.IntN(2) * (far - 100000)
		for range 800 {
			task, asked := r.IntN(20)-2, []int{r.IntN(40) - 2, r.IntN(5000)}[r.IntN(2)]
			now += []int{r.IntN(12), r.IntN(200), -r.IntN(9)}[r.IntN(3)]
			was, want := g.May(task, now), m.may(task, now)
			if was != want {
				t.Fatalf("May(%d, %d): %v", task, now, was)
			}
			if got := g.Came(task, now, asked); got != was || m.came(task, now, asked) != got {
				t.Fatalf("Came(%d, %d, %d): %v", task, now, asked, got)
			}
			if was {
				if at, ok := last[task]; ok && now-at < period[task] {
					t.Fatalf("task %d: at %d, and %d, of the period %d", task, at, now, period[task])
				}
				last[task], period[task] = now, min(max(asked, 1), 4096)
			}
			hold(t, g, m, now)
		}
	}
}

// The chapter's example.
func TestExample(t *testing.T) {
	g := guard.Guard{}
	if a, b, c := g.Came(0, 5, 10), g.Came(0, 14, 10), g.May(0, 15); !a || b || !c {
		t.Error(a, b, c)
	}
}
