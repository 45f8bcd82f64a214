package steady_test

import (
	"math"
	"math/rand/v2"
	"reflect"
	"slices"
	"testing"

	"remontoir/api"
	"remontoir/ceil"
	"remontoir/image"
	"remontoir/mask"
	"remontoir/steady"
)

// far are numbers of no task.
var far = []int{-1, -2, -16, 16, 17, 31, 32, 33, 64, 1 << 31, 1 << 32, 1<<32 + 1, -1 << 32, math.MinInt32, math.MinInt, math.MinInt + 1, math.MaxInt - 1, math.MaxInt}

// of: an image of these tasks, that may be.
func of(t *testing.T, res int, l ...api.Task) api.Image {
	t.Helper()
	x := api.Image{Res: res, Tasks: l, Modes: []api.Mode{{}}}
	if at, e := image.Check(x); e != api.OK {
		t.Fatalf("%+v may not be: %d, %v", x, at, e)
	}
	return x
}

// holding: a task that holds resources.
func holding(k api.Task, longest ...int) api.Task {
	copy(k.Longest[:], longest)
	return k
}

// three: the ten examples' image.
func three(t *testing.T) api.Image {
	return of(t, 1, holding(api.Task{Period: 10, Deadline: 10, Cost: 2}, 1), api.Task{Period: 20, Deadline: 18, Cost: 5}, holding(api.Task{Period: 40, Deadline: 40, Cost: 6}, 2))
}

// random: an image of so many tasks that ask for so many hundredths of all time, as it comes, and of some resources.
func random(t *testing.T, r *rand.Rand, many, hundredths int) api.Image {
	t.Helper()
	var l []api.Task
	res := r.IntN(9)
	scale := []int{10, 100, 1000, 4096}[r.IntN(4)]
	for range many {
		k := api.Task{Period: 1 + r.IntN(scale)}
		k.Cost = min(1+k.Period*r.IntN(2*hundredths+1)/many/100, k.Period)
		k.Deadline = max(k.Cost, k.Period-r.IntN(4)/3*r.IntN(k.Period))
		for i := range res {
			if r.IntN(4) == 0 {
				k.Longest[i] = 1 + r.IntN(1+k.Cost/2)
			}
		}
		l = append(l, k)
	}
	// Mostly as deadlines rise, so that some are in time.
	if r.IntN(5) > 0 {
		slices.SortFunc(l, func(a, b api.Task) int { return a.Deadline - b.Deadline })
	}
	return of(t, res, l...)
}

// part: some of an image's tasks.
func part(r *rand.Rand, x api.Image) mask.Set {
	s := mask.Set(1<<len(x.Tasks) - 1)
	if r.IntN(3) == 0 {
		return s
	}
	return s & mask.Set(r.Uint32())
}

// block: what Block is to answer, number by number.
func block(x api.Image, s mask.Set, c ceil.Table, task int) int {
	all := 0
	for res, ceiling := range c {
		if ceiling > task || ceiling >= 16 {
			continue
		}
		var l []int
		for i, k := range x.Tasks {
			if uint32(s)>>i&1 == 1 && i > task {
				l = append(l, k.Longest[res])
			}
		}
		if len(l) > 0 {
			all += slices.Max(l)
		}
	}
	return all
}

// ends: when work that is there at first, and jobs of some tasks that come as fast as they may, are done, tick by tick; false: not up to a bound.
func ends(work, most int, l []api.Task) (int, bool) {
	for now := range most {
		for _, k := range l {
			if now%k.Period == 0 {
				work += k.Cost
			}
		}
		if work = max(work-1, 0); work == 0 {
			return now + 1, true
		}
	}
	return 0, false
}

// some: an image's tasks of a set that are less than one.
func some(x api.Image, s mask.Set, below int) []api.Task {
	var l []api.Task
	for i, k := range x.Tasks {
		if i < below && uint32(s)>>i&1 == 1 {
			l = append(l, k)
		}
	}
	return l
}

// response: what Response is to answer of a task that there is.
func response(x api.Image, s, held mask.Set, c ceil.Table, task int) (steady.Row, bool) {
	row := steady.Row{Task: task, Block: block(x, held, c, task)}
	k := x.Tasks[task]
	n, ok := ends(k.Cost+row.Block, k.Deadline, some(x, s, task))
	row.Response = n
	return row, ok
}

// is holds what Mode and Slack answer of a set: these rows, each time the same.
func is(t *testing.T, x api.Image, s mask.Set, slack int, want ...steady.Row) {
	t.Helper()
	given := image.Copy(x)
	for range 2 {
		if l, at, ok := steady.Mode(x, s); !slices.Equal(l, want) || at != 0 || !ok {
			t.Errorf("Mode(%+v, %x): %v, %d, %v, not %v", x, s, l, at, ok, want)
		}
		if n, ok := steady.Slack(x, s); n != slack || ok != (len(want) > 0) {
			t.Errorf("Slack(%+v, %x): %d, %v, not %d", x, s, n, ok, slack)
		}
	}
	if !reflect.DeepEqual(given, x) {
		t.Errorf("%+v is changed to %+v", given, x)
	}
}

// isLate holds that Mode and Slack answer that a task may be late.
func isLate(t *testing.T, x api.Image, s mask.Set, want int) {
	t.Helper()
	for range 2 {
		if l, at, ok := steady.Mode(x, s); len(l) != 0 || at != want || ok {
			t.Errorf("Mode(%+v, %x): %v, %d, %v, not %d", x, s, l, at, ok, want)
		}
		if n, ok := steady.Slack(x, s); n != 0 || ok {
			t.Errorf("Slack(%+v, %x): %d, %v", x, s, n, ok)
		}
	}
}

// isBusy holds what Busy answers, each time the same; 0: false.
func isBusy(t *testing.T, x api.Image, s mask.Set, want int) {
	t.Helper()
	for range 2 {
		if n, ok := steady.Busy(x, s); n != want || ok != (want > 0) {
			t.Errorf("Busy(%+v, %x): %d, %v, not %d", x, s, n, ok, want)
		}
	}
}

// The chapter's example, and the ten examples' image.
func TestExample(t *testing.T) {
	two := of(t, 0, api.Task{Period: 10, Deadline: 10, Cost: 2}, api.Task{Period: 20, Deadline: 20, Cost: 5})
	is(t, two, 3, 8, steady.Row{Task: 0, Response: 2}, steady.Row{Task: 1, Response: 7})
	is(t, three(t), 7, 6, steady.Row{Task: 0, Block: 2, Response: 4}, steady.Row{Task: 1, Block: 2, Response: 9}, steady.Row{Task: 2, Response: 15})
	isBusy(t, three(t), 3, 16)
}

// P18.1: of each resource the greatest one, of all resources together; tasks that aren't greater count for nothing.
func TestBlock(t *testing.T) {
	k := api.Task{Period: 100, Deadline: 100, Cost: 50}
	x := of(t, 3, holding(k, 1, 0, 0), holding(k, 20, 30, 40), holding(k, 3, 7, 0), holding(k, 5, 4, 9), holding(k, 2, 0, 11))
	all := ceil.Of(x, 31) // 0, 1, 1
	for _, c := range []struct {
		s    mask.Set
		t    ceil.Table
		task int
		want int
	}{
		{31, all, 0, 20},
		{31, all, 1, 5 + 7 + 11},
		{31, all, 2, 5 + 4 + 11},
		{31, all, 3, 2 + 0 + 11},
		{31, all, 4, 0},
		{mask.Of(1, 2, 3), all, 1, 5 + 7 + 9},
		{mask.Of(2, 4), all, 1, 3 + 7 + 11},
		{mask.Of(4), all, 1, 2 + 11}, // a task that isn't of the set
		{mask.Of(0, 1), all, 1, 0},
		{0, all, 1, 0},
		{31, ceil.Empty(), 3, 0}, // nobody uses any
		{31, ceil.Of(x, mask.Of(2, 3, 4)), 1, 0},
		{31, ceil.Of(x, mask.Of(2, 3, 4)), 2, 5 + 4},
		{31, ceil.Of(x, mask.Of(2, 3, 4)), 3, 2 + 0 + 11},
		{31, ceil.Table{15, 16, 17, 2, 2, 2, 2, 2}, 2, 0},
		{31, ceil.Table{16, 2, 16, 0, 0, 0, 0, 0}, 2, 4},
		{31, ceil.Table{-1, math.MinInt, math.MaxInt}, 0, 20 + 30},
		{31, all, -1, 0},
		{31, all, 5, 0},
		{31, all, 31, 0},
		{31, all, 1 << 32, 0},
		{31, all, math.MaxInt, 0},
		{31, all, math.MinInt, 0},
	} {
		for range 2 {
			if n := steady.Block(x, c.s, c.t, c.task); n != c.want {
				t.Errorf("Block(%x, %v, %d): %d, not %d", c.s, c.t, c.task, n, c.want)
			}
		}
	}
}

// P18.1: the most that may be of all eight resources.
func TestBlockMost(t *testing.T) {
	most := holding(api.Task{Period: 4096, Deadline: 4096, Cost: 4096}, 4096, 4096, 4096, 4096, 4096, 4096, 4096, 4096)
	x := of(t, 8, slices.Repeat([]api.Task{most}, 16)...)
	for task := range 16 {
		want := 8 * 4096
		if task == 15 {
			want = 0
		}
		if n := steady.Block(x, 0xffff, ceil.Of(x, 0xffff), task); n != want {
			t.Errorf("%d: %d, not %d", task, n, want)
		}
	}
	isLate(t, x, 0xffff, 0)
	is(t, x, 1<<15, 0, steady.Row{Task: 15, Response: 4096})
}

// P18.1, P18.2: whatever tasks, sets and tables, each task held against what is told number by number, and tick by tick.
func TestResponseMixture(t *testing.T) {
	r := rand.New(rand.NewPCG(18, 1))
	found, none := 0, 0
	for range 600 {
		x := random(t, r, 1+r.IntN(16), 70)
		s, held := part(r, x), part(r, x)
		c := ceil.Of(x, part(r, x))
		if r.IntN(4) == 0 {
			for res := range c {
				c[res] = r.IntN(20) - 1
			}
		}
		for task := range x.Tasks {
			if got, want := steady.Block(x, s, c, task), block(x, s, c, task); got != want {
				t.Fatalf("Block(%+v, %x, %v, %d): %d, not %d", x, s, c, task, got, want)
			}
			row, ok := steady.Response(x, s, held, c, task)
			want, is := response(x, s, held, c, task)
			if row != want || ok != is {
				t.Fatalf("Response(%+v, %x, %x, %v, %d): %v, %v, not %v, %v", x, s, held, c, task, row, ok, want, is)
			}
			if ok {
				found++
			} else {
				none++
			}
		}
	}
	if found < 500 || none < 500 {
		t.Error(found, none)
	}
}

// P18.2: a task that there isn't has not even a number, whatever the sets say.
func TestNoTask(t *testing.T) {
	x := three(t)
	for _, task := range append([]int{3, 4, 15}, far...) {
		for _, s := range []mask.Set{0, 7, 0xffff, 1<<32 - 1} {
			for range 2 {
				if row, ok := steady.Response(x, s, s, ceil.Of(x, 7), task); row != (steady.Row{}) || ok {
					t.Errorf("Response(%x, %d): %v, %v", s, task, row, ok)
				}
			}
		}
	}
	x.Tasks = x.Tasks[:2] // what lies behind the length is no task
	if row, ok := steady.Response(x, 7, 7, ceil.Empty(), 2); row != (steady.Row{}) || ok {
		t.Error(row, ok)
	}
	is(t, x, 3, 8, steady.Row{Task: 0, Response: 2}, steady.Row{Task: 1, Response: 7})
}

// P18.2: s is who goes ahead, hold who may hold; neither need have the task.
func TestSets(t *testing.T) {
	x := three(t)
	c := ceil.Of(x, 7)
	for _, k := range []struct {
		s, hold  mask.Set
		t        ceil.Table
		task     int
		block    int
		response int
	}{
		{7, 7, c, 1, 2, 9},
		{5, 4, c, 1, 2, 9},
		{1, 4, c, 1, 2, 9},
		{0, 4, c, 1, 2, 7},
		{6, 7, c, 1, 2, 7},
		{7, 3, c, 1, 0, 7},
		{0, 0, c, 1, 0, 5},
		{7, 7, ceil.Empty(), 1, 0, 7},
		{7, 7, ceil.Of(x, 6), 1, 0, 7}, // the ceiling is 2
		{7, 7, ceil.Of(x, 6), 2, 0, 15},
		{3, 7, c, 2, 0, 15},
		{1, 7, c, 2, 0, 8},
		{0, 7, c, 0, 2, 4},
	} {
		row, ok := steady.Response(x, k.s, k.hold, k.t, k.task)
		if row != (steady.Row{Task: k.task, Block: k.block, Response: k.response}) || !ok {
			t.Errorf("%+v: %v, %v", k, row, ok)
		}
	}
}

// P18.2: up to the Deadline, and no tick longer; then Task and Block are told all the same.
func TestDeadline(t *testing.T) {
	a := holding(api.Task{Period: 10, Deadline: 4, Cost: 2}, 1)
	b := holding(api.Task{Period: 40, Deadline: 40, Cost: 8}, 2)
	x := of(t, 1, a, b)
	is(t, x, 3, 0, steady.Row{Task: 0, Block: 2, Response: 4}, steady.Row{Task: 1, Response: 10})
	x.Tasks[1].Longest[0] = 3
	isLate(t, x, 3, 0)
	if row, ok := steady.Response(x, 3, 3, ceil.Of(x, 3), 0); row != (steady.Row{Block: 3}) || ok {
		t.Error(row, ok)
	}
	x.Tasks[1] = b
	x.Tasks[1].Deadline = 10
	is(t, x, 3, 0, steady.Row{Task: 0, Block: 2, Response: 4}, steady.Row{Task: 1, Response: 10})
	x.Tasks[1].Deadline = 9
	isLate(t, x, 3, 1)
	x.Tasks[1].Deadline, x.Tasks[1].Cost = 40, 9 // one tick more, and one more job comes
	is(t, x, 3, 0, steady.Row{Task: 0, Block: 2, Response: 4}, steady.Row{Task: 1, Response: 13})
}

// P18.2: a mode's ceilings are those of its own tasks, and its own tasks alone hold.
func TestModeOwn(t *testing.T) {
	x := three(t)
	is(t, x, 5, 6, steady.Row{Task: 0, Block: 2, Response: 4}, steady.Row{Task: 2, Response: 8})
	is(t, x, 6, 13, steady.Row{Task: 1, Response: 5}, steady.Row{Task: 2, Response: 11})
	is(t, x, 3, 8, steady.Row{Task: 0, Response: 2}, steady.Row{Task: 1, Response: 7})
	is(t, x, 4, 34, steady.Row{Task: 2, Response: 6})
}

// P18.2, P18.3: of no tasks there are no rows, and no slack.
func TestNoTasks(t *testing.T) {
	is(t, three(t), 0, 0)
	isBusy(t, three(t), 0, 1)
}

// P18.2: the first one that may be late is told, however many are.
func TestModeFirst(t *testing.T) {
	k := api.Task{Period: 8, Deadline: 8, Cost: 3}
	x := of(t, 0, slices.Repeat([]api.Task{k}, 16)...)
	isLate(t, x, 0xffff, 2)
	isLate(t, x, 0xfffc, 4)
	isLate(t, x, mask.Of(1, 5, 12, 14, 15), 12)
	is(t, x, mask.Of(3, 15), 2, steady.Row{Task: 3, Response: 3}, steady.Row{Task: 15, Response: 6})
	full := api.Task{Period: 1, Deadline: 1, Cost: 1}
	x = of(t, 0, full, k, full)
	isLate(t, x, 7, 1)
	isLate(t, x, 5, 2)
	is(t, x, 4, 0, steady.Row{Task: 2, Response: 1})
}

// P18.2, P18.3: whatever modes, held against what is told tick by tick.
func TestModeMixture(t *testing.T) {
	r := rand.New(rand.NewPCG(18, 2))
	late, many := 0, 0
	for range 600 {
		x := random(t, r, 1+r.IntN(16), 20+r.IntN(70))
		s := part(r, x)
		var want []steady.Row
		first, slack := -1, math.MaxInt
		for task := range s.All() {
			row, ok := response(x, s, s, ceil.Of(x, s), task)
			if !ok {
				first = task
				break
			}
			want = append(want, row)
			slack = min(slack, x.Tasks[task].Deadline-row.Response)
		}
		switch {
		case first >= 0:
			isLate(t, x, s, first)
			late++
		case len(want) > 0:
			is(t, x, s, slack, want...)
			many += len(want)
		}
		n, _ := ends(work(x, s), 1<<16, some(x, s, 16))
		isBusy(t, x, s, n)
	}
	if late < 100 || many < 500 {
		t.Error(late, many)
	}
}

// work: that of one job of each task of a set.
func work(x api.Image, s mask.Set) int {
	n := 0
	for _, k := range some(x, s, 16) {
		n += k.Cost
	}
	return n
}

// P18.3: up to MaxWindow, and not one tick longer.
func TestBusyBounds(t *testing.T) {
	isBusy(t, of(t, 0, api.Task{Period: 2115, Deadline: 2115, Cost: 2048}), 1, 1<<16)
	isBusy(t, of(t, 0, api.Task{Period: 2114, Deadline: 2114, Cost: 2048}), 1, 0) // 33 * 2048
	isBusy(t, of(t, 0, api.Task{Period: 2115, Deadline: 2115, Cost: 2048}, api.Task{Period: 4096, Deadline: 4096, Cost: 1}), 3, 0)
	isBusy(t, of(t, 0, api.Task{Period: 1, Deadline: 1, Cost: 1}), 1, 0)
	isBusy(t, of(t, 0, api.Task{Period: 4096, Deadline: 4096, Cost: 4096}), 1, 0)
	isBusy(t, of(t, 0, api.Task{Period: 4096, Deadline: 4096, Cost: 4095}), 1, 0)
	isBusy(t, of(t, 0, api.Task{Period: 2, Deadline: 2, Cost: 1}), 1, 2)
	isBusy(t, of(t, 0, api.Task{Period: 4096, Deadline: 1, Cost: 1}), 1, 2)
	isBusy(t, of(t, 0, api.Task{Period: 4096, Deadline: 4096, Cost: 2048}), 1, 4096)
	isBusy(t, of(t, 0, api.Task{Period: 4096, Deadline: 4096, Cost: 2049}), 1, 3*2049)
	late := of(t, 0, api.Task{Period: 40, Deadline: 3, Cost: 3}, api.Task{Period: 40, Deadline: 3, Cost: 3})
	isBusy(t, late, 3, 12) // deadlines and who goes first count for nothing
	isLate(t, late, 3, 1)
}

// P18.3: the least slack, whichever task has it, from 0 on to the most that may be.
func TestSlack(t *testing.T) {
	a, b := api.Task{Period: 10, Deadline: 10, Cost: 2}, api.Task{Period: 20, Deadline: 20, Cost: 5}
	rows := []steady.Row{{Task: 0, Response: 2}, {Task: 1, Response: 7}}
	for near := range 10 {
		a.Deadline, b.Deadline = 2+near, 20
		if a.Deadline <= a.Period {
			is(t, of(t, 0, a, b), 3, near, rows...)
		}
		a.Deadline, b.Deadline = 10, 7+near
		is(t, of(t, 0, a, b), 3, min(near, 8), rows...)
	}
	is(t, of(t, 0, api.Task{Period: 4096, Deadline: 4096, Cost: 1}), 1, 4095, steady.Row{Response: 1})
}

// grown: an image of which one number is more, or one task more holds something; nothing of it is less.
func grown(r *rand.Rand, x api.Image) api.Image {
	x = image.Copy(x)
	k := &x.Tasks[r.IntN(len(x.Tasks))]
	if x.Res > 0 && r.IntN(2) == 0 {
		n := &k.Longest[r.IntN(x.Res)]
		*n = min(*n+1+r.IntN(3), k.Cost)
	}
	k.Cost = min(k.Cost+r.IntN(3), k.Deadline)
	return x
}

// P18.4: of more tasks, longer ones, more that are held no response is less, and none comes about that wasn't.
func TestFollows(t *testing.T) {
	r := rand.New(rand.NewPCG(18, 4))
	both, more := 0, 0
	for range 3000 {
		x := random(t, r, 1+r.IntN(8), 50)
		y := grown(r, x)
		s, held, ceilings := part(r, x), part(r, x), part(r, x)
		all, allHeld := s|part(r, x), held|part(r, x)
		c := ceil.Of(x, ceilings)
		wide := ceil.Of(y, ceilings|part(r, x))
		for task := range x.Tasks {
			a, was := steady.Response(x, s, held, c, task)
			b, is := steady.Response(y, all, allHeld, wide, task)
			if is && !was || is && b.Response < a.Response || b.Block < a.Block {
				t.Fatalf("%d: %v, %v of %+v, then %v, %v of %+v", task, a, was, x, b, is, y)
			}
			if is {
				both++
			}
			if is && b.Response > a.Response {
				more++
			}
		}
		if n, ok := steady.Busy(y, all); ok {
			if was, fine := steady.Busy(x, s); !fine || was > n {
				t.Fatalf("Busy: %d, %v of %x of %+v, then %d of %x of %+v", was, fine, s, x, n, all, y)
			}
		}
	}
	if both < 2000 || more < 500 {
		t.Error(both, more)
	}
}

// Sets with tasks that there aren't, of which nothing is promised: nothing panics.
func TestOtherSets(t *testing.T) {
	x := three(t)
	for _, s := range []mask.Set{8, 15, 0xfff8, 1 << 31, 1<<32 - 1} {
		steady.Mode(x, s)
		steady.Busy(x, s)
		steady.Slack(x, s)
		for _, task := range append([]int{0, 1, 2}, far...) {
			steady.Block(x, s, ceil.Table{-1, 40, math.MinInt, math.MaxInt}, task)
			steady.Response(x, s, s, ceil.Table{-1, 40, math.MinInt, math.MaxInt}, task)
			steady.Block(api.Image{}, s, ceil.Table{}, task)
		}
		steady.Mode(api.Image{}, s)
		steady.Busy(api.Image{}, s)
		steady.Slack(api.Image{}, s)
	}
}

// Rule 5: what is answered is new memory.
func TestMemory(t *testing.T) {
	x := three(t)
	a, _, _ := steady.Mode(x, 7)
	b, _, _ := steady.Mode(x, 7)
	clear(a)
	if !slices.Equal(b, []steady.Row{{Task: 0, Block: 2, Response: 4}, {Task: 1, Block: 2, Response: 9}, {Task: 2, Response: 15}}) {
		t.Error("two answers share something")
	}
}
