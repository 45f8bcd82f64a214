package offset_test

import (
	"math"
	"math/rand/v2"
	"reflect"
	"slices"
	"testing"

	"remontoir/api"
	"remontoir/image"
	"remontoir/mask"
	"remontoir/offset"
	"remontoir/window"
)

// outside are numbers of no edge of any image that may be.
var outside = []int{-1, -2, -24, 24, 25, 32, 64, 1 << 31, 1 << 32, -1 << 32, math.MinInt32, math.MinInt, math.MinInt + 1, math.MaxInt - 1, math.MaxInt}

// offsets are those of an edge.
type offsets = [api.MaxTasks]int

// task: one that has its whole period.
func task(period, cost int) api.Task {
	return api.Task{Period: period, Deadline: period, Cost: cost}
}

// of: an image of these tasks, that may be, with one edge between modes of these sets.
func of(t *testing.T, from, to mask.Set, l ...api.Task) api.Image {
	t.Helper()
	x := api.Image{Res: 8, Tasks: l, Modes: []api.Mode{{Tasks: uint32(from)}, {Tasks: uint32(to)}}}
	x.Edges = []api.Edge{{From: 0, To: 1, Protocol: api.Apart}}
	maybe(t, x)
	return x
}

// maybe holds that an image may be.
func maybe(t *testing.T, x api.Image) {
	t.Helper()
	if at, e := image.Check(x); e != api.OK {
		t.Fatalf("%+v may not be: %d, %v", x, at, e)
	}
}

// fit: as the chapter says it: has the shift with these offsets a Span?
func fit(x api.Image, edge int, o offsets) bool {
	s, ok := window.New(x, edge, o)
	if !ok {
		return false
	}
	_, ok = s.Span()
	return ok
}

// fresh: the tasks that an edge brings, told by the modes' bits.
func fresh(x api.Image, edge int) []int {
	var l []int
	e := x.Edges[edge]
	for i := range x.Tasks {
		if x.Modes[e.To].Tasks>>i&1 == 1 && x.Modes[e.From].Tasks>>i&1 == 0 {
			l = append(l, i)
		}
	}
	return l
}

// alike: of these tasks one offset.
func alike(l []int, n int) offsets {
	var o offsets
	for _, i := range l {
		o[i] = n
	}
	return o
}

// is holds what Find and Common answer of an edge, each time the same.
func is(t *testing.T, x api.Image, edge int, found offsets, common int, ok bool) {
	t.Helper()
	given := image.Copy(x)
	for range 2 {
		if o, is := offset.Find(x, edge); o != found || is != ok {
			t.Errorf("Find(%+v, %d): %v, %v, not %v, %v", x, edge, o, is, found, ok)
		}
		if n, is := offset.Common(x, edge); n != common || is != ok {
			t.Errorf("Common(%+v, %d): %d, %v, not %d, %v", x, edge, n, is, common, ok)
		}
	}
	if !reflect.DeepEqual(given, x) {
		t.Errorf("%+v is changed to %+v", given, x)
	}
}

// none holds that an edge has no offsets.
func none(t *testing.T, x api.Image, edge int) {
	t.Helper()
	is(t, x, edge, offsets{}, 0, false)
}

// fills holds what Fill answers, each time the same; of no offsets the first edge of which there are none.
func fills(t *testing.T, x, want api.Image, edge int, ok bool) {
	t.Helper()
	given := image.Copy(x)
	for range 2 {
		y, n, is := offset.Fill(x)
		if !image.Same(y, want) || n != edge || is != ok {
			t.Errorf("Fill(%+v): %+v, %d, %v, not %+v, %d, %v", x, y, n, is, want, edge, ok)
		}
		if !ok && !reflect.DeepEqual(y, api.Image{}) {
			t.Errorf("Fill: %+v beside false", y)
		}
	}
	if !reflect.DeepEqual(given, x) {
		t.Errorf("%+v is changed to %+v", given, x)
	}
}

// The chapter's example.
func TestExample(t *testing.T) {
	x := of(t, 2, 3, task(10, 2), task(20, 5))
	is(t, x, 0, offsets{}, 0, true)
	fills(t, x, x, 0, true)
}

// P20.1, P20.2: numbers told by hand, ahead of and at each bound.
func TestNumbers(t *testing.T) {
	// The old task and the one that stays take 11 ticks; with one more job ahead there would be 15 of 12.
	x := of(t, 6, 3, task(10, 4), task(20, 5), api.Task{Period: 30, Deadline: 12, Cost: 6})
	is(t, x, 0, offsets{11}, 11, true)
	// The last one has 14 ticks: 10 without the new ones, 13 with one of them, 16 with both.
	x = of(t, 9, 14, task(20, 4), task(20, 3), task(20, 3), api.Task{Period: 40, Deadline: 14, Cost: 6})
	is(t, x, 0, offsets{2: 13}, 10, true)
	x.Tasks[3].Deadline = 16
	is(t, x, 0, offsets{}, 0, true)
	x.Tasks[3].Deadline = 13
	is(t, x, 0, offsets{2: 13}, 10, true)
	x.Tasks[3].Deadline = 12 // behind the change it takes just as long, with both new ones
	is(t, x, 0, offsets{1: 10, 2: 10}, 10, true)
	x.Tasks[3].Deadline = 11
	none(t, x, 0)
	// A new task's own window: it is at work till the old one lets it, but needn't be, ahead of its offset.
	x = of(t, 1, 2, task(10, 6), api.Task{Period: 20, Deadline: 8, Cost: 5})
	is(t, x, 0, offsets{1: 9}, 9, true) // 5 and two jobs of 6: 17
	x.Tasks[1].Deadline = 17
	is(t, x, 0, offsets{}, 0, true)
	x.Tasks[1].Deadline = 16
	is(t, x, 0, offsets{1: 1}, 1, true)
}

// P20.1, P20.2: up to Far, and not one tick farther.
func TestFar(t *testing.T) {
	if offset.Far != 16384 {
		t.Error(offset.Far)
	}
	// The new one's 204 ticks are done behind 204 of the old one's periods, of which each leaves one tick.
	x := of(t, 1, 2, task(100, 99), api.Task{Period: 4096, Deadline: 4016, Cost: 204})
	is(t, x, 0, offsets{1: offset.Far}, offset.Far, true)
	x.Tasks[1].Deadline = 4017
	is(t, x, 0, offsets{1: offset.Far - 1}, offset.Far-1, true)
	x.Tasks[1].Deadline = 4015
	none(t, x, 0)
	// Each period the old one leaves two ticks, its last ones. The first task, new from 0 on, takes three of them; in common with the other one it comes once in that time.
	x = of(t, 2, 5, task(4096, 1), task(101, 99), api.Task{Period: 4096, Deadline: 4015, Cost: 204})
	is(t, x, 0, offsets{0, 0, 103*101 + 100 - 4015}, 102*101+100-4015, true)
}

// P20.1, P20.2: of which there are none: somebody of either mode is late, whatever the offsets.
func TestLate(t *testing.T) {
	k := api.Task{Period: 100, Deadline: 20, Cost: 15}
	none(t, of(t, 3, 4, k, k, k), 0)     // old ones
	none(t, of(t, 4, 3, k, k, k), 0)     // new ones, behind
	none(t, of(t, 3, 7, k, k, k), 0)     // those that stay
	none(t, of(t, 4, 12, k, k, k, k), 0) // one of either kind
	is(t, of(t, 1, 2, k, k), 0, offsets{1: 10}, 10, true)
	is(t, of(t, 2, 1, k, k), 0, offsets{15}, 15, true)
	full := task(1, 1)
	none(t, of(t, 1, 2, full, full), 0)
	is(t, of(t, 2, 1, full, full), 0, offsets{1}, 1, true)
}

// P20.1, P20.2: where nothing is new the offsets are noughts, if nobody is late.
func TestNothingNew(t *testing.T) {
	x := of(t, 3, 1, task(10, 2), task(20, 5))
	is(t, x, 0, offsets{}, 0, true)
	x.Modes[1].Tasks = 0
	is(t, x, 0, offsets{}, 0, true)
	x.Modes[0].Tasks = 0
	is(t, x, 0, offsets{}, 0, true)
	x.Modes[0].Tasks, x.Modes[1].Tasks = 3, 3
	is(t, x, 0, offsets{}, 0, true)
	x.Tasks[1].Deadline = 6
	none(t, x, 0)
	x.Modes[1].Tasks = 0
	none(t, x, 0)
}

// P20.1, P20.2: all tasks new, and the last one of all.
func TestAllNew(t *testing.T) {
	l := slices.Repeat([]api.Task{task(100, 6)}, 16)
	is(t, of(t, 0, 0xffff, l...), 0, offsets{}, 0, true)
	is(t, of(t, 0x7fff, 0x8000, l...), 0, offsets{}, 0, true)
	l[15].Deadline = 95
	is(t, of(t, 0x7fff, 0x8000, l...), 0, offsets{15: 1}, 1, true)
	is(t, of(t, 0x0001, 0xfffe, l...), 0, offsets{15: 1}, 1, true)
	l[15].Deadline = 89
	none(t, of(t, 0x0001, 0xfffe, l...), 0)
}

// P20.1, P20.2: what is held counts as it does in layer 19, old tasks' resources too.
func TestResources(t *testing.T) {
	stays, old := api.Task{Period: 40, Deadline: 13, Cost: 5}, task(80, 8)
	is(t, of(t, 13, 6, task(40, 2), task(40, 4), stays, old), 0, offsets{}, 0, true) // 2, 4, 5
	stays.Longest[2], old.Longest[2] = 1, 3
	is(t, of(t, 13, 6, task(40, 2), task(40, 4), stays, old), 0, offsets{1: 10}, 10, true) // 2, 5, 3; and 4 would be too much
	stays.Deadline = 11
	none(t, of(t, 13, 6, task(40, 2), task(40, 4), stays, old), 0) // behind: 4, 5, 3
}

// P20.1, P20.2: no such edge.
func TestNoEdge(t *testing.T) {
	x := of(t, 2, 3, task(10, 2), task(20, 5))
	x.Edges = append(x.Edges, x.Edges[0])[:1] // what lies behind the length is no edge
	for _, edge := range append([]int{1, 2}, outside...) {
		none(t, x, edge)
	}
	x.Edges = nil
	none(t, x, 0)
	none(t, api.Image{}, 0)
}

// P20.1, P20.2: neither the protocol of an edge nor its own offsets count.
func TestEdges(t *testing.T) {
	x := of(t, 6, 3, task(10, 4), task(20, 5), api.Task{Period: 30, Deadline: 12, Cost: 6})
	for p := api.Idle; p <= api.Apart; p++ {
		x.Edges[0].Protocol = p
		is(t, x, 0, offsets{11}, 11, true)
	}
	for _, n := range []int{1, 11, offset.Far} {
		x.Edges[0].Offsets[0] = n
		is(t, x, 0, offsets{11}, 11, true)
		y := image.Copy(x)
		y.Edges[0].Offsets[0] = 11
		fills(t, x, y, 0, true)
	}
}

// several: an image with edges of all protocols; in its mode 3 tasks are late, so the edges to it and from it have no offsets.
func several(t *testing.T) api.Image {
	t.Helper()
	x := api.Image{Res: 1, Tasks: []api.Task{task(10, 4), task(20, 5), {Period: 30, Deadline: 12, Cost: 6}, task(20, 12)}}
	x.Modes = []api.Mode{{Tasks: 6, Queues: []api.Queue{{Cap: 2, Policy: api.Refuse}}}, {Tasks: 3}, {Tasks: 2, Queues: []api.Queue{{Cap: 1, Policy: api.DropNew}}}, {Tasks: 15}}
	x.Edges = []api.Edge{
		{From: 2, To: 3, Protocol: api.Idle},
		{From: 0, To: 1, Protocol: api.Apart},
		{From: 1, To: 2, Protocol: api.Longest},
		{From: 0, To: 2, Protocol: api.Apart, Map: [api.MaxQueues]int{1}},
		{From: 2, To: 1, Protocol: api.Apart, Offsets: offsets{9}},
		{From: 1, To: 0, Protocol: api.Apart},
		{From: 3, To: 0, Protocol: api.Longest},
	}
	maybe(t, x)
	return x
}

// P20.3: edges of the protocol Apart have found offsets, all else is as it was.
func TestFill(t *testing.T) {
	x := several(t)
	want := image.Copy(x)
	want.Edges[1].Offsets, want.Edges[4].Offsets, want.Edges[5].Offsets = offsets{11}, offsets{}, offsets{2: 7}
	fills(t, x, want, 0, true)
	maybe(t, want)
	fills(t, want, want, 0, true)
	x.Edges = nil
	fills(t, x, x, 0, true)
	fills(t, api.Image{}, api.Image{}, 0, true)
}

// P20.3: of the edges that have none the first one of the protocol Apart is told.
func TestFillNone(t *testing.T) {
	for _, c := range []struct {
		edges []api.Edge
		first int
	}{
		{[]api.Edge{{From: 2, To: 3, Protocol: api.Apart}}, 0},
		{[]api.Edge{{From: 2, To: 3, Protocol: api.Apart}, {From: 0, To: 1, Protocol: api.Apart}}, 0},
		{[]api.Edge{{From: 2, To: 3, Protocol: api.Idle}, {From: 0, To: 3, Protocol: api.Apart}, {From: 1, To: 3, Protocol: api.Apart}}, 1},
		{[]api.Edge{{From: 0, To: 1, Protocol: api.Apart}, {From: 2, To: 3, Protocol: api.Longest}, {From: 1, To: 3, Protocol: api.Idle}, {From: 1, To: 0, Protocol: api.Apart}, {From: 3, To: 2, Protocol: api.Apart}}, 4},
	} {
		x := several(t)
		x.Edges = c.edges
		maybe(t, x)
		fills(t, x, api.Image{}, c.first, false)
		x.Edges = x.Edges[:c.first] // what lies behind the length is no edge
		y, _, ok := offset.Fill(x)
		if !ok || len(y.Edges) != c.first {
			t.Errorf("Fill(%+v): %+v, %v", x, y, ok)
		}
	}
}

// Rule 5: what is answered shares nothing with what was handed in.
func TestMemory(t *testing.T) {
	x := several(t)
	given := image.Copy(x)
	y, _, _ := offset.Fill(x)
	want := image.Copy(y)
	y.Tasks[0], y.Edges[1] = api.Task{}, api.Edge{}
	y.Modes[0].Queues[0] = api.Queue{}
	y.Modes[1] = api.Mode{}
	if !image.Same(x, given) {
		t.Errorf("%+v is changed to %+v", given, x)
	}
	y, _, _ = offset.Fill(x)
	x.Tasks[0], x.Edges[1] = api.Task{}, api.Edge{}
	x.Modes[0].Queues[0] = api.Queue{}
	x.Modes[1] = api.Mode{}
	if !image.Same(y, want) {
		t.Errorf("%+v is changed to %+v", want, y)
	}
	// Of two modes with one list of queues each has its own one.
	x = several(t)
	x.Modes[3].Queues = x.Modes[0].Queues
	y, _, _ = offset.Fill(x)
	y.Modes[0].Queues[0] = api.Queue{}
	if y.Modes[3].Queues[0] != x.Modes[3].Queues[0] {
		t.Error("two lists of one answer share something")
	}
}

// shuffled: an image of some tasks that ask for so many hundredths of all time, with an edge between each two modes.
func shuffled(t *testing.T, r *rand.Rand, hundredths, scale int) api.Image {
	t.Helper()
	x := api.Image{Res: r.IntN(4)}
	many := 2 + r.IntN(9)
	for range many {
		k := api.Task{Period: scale/2 + r.IntN(scale/2) + 1}
		k.Cost = min(1+k.Period*r.IntN(2*hundredths+1)/many/100, k.Period)
		k.Deadline = max(k.Cost, k.Period-r.IntN(2)*r.IntN(k.Period))
		for i := range x.Res {
			if r.IntN(8) == 0 {
				k.Longest[i] = 1 + r.IntN(1+k.Cost/3)
			}
		}
		x.Tasks = append(x.Tasks, k)
	}
	// Mostly as deadlines rise, so that some are in time.
	if r.IntN(5) > 0 {
		slices.SortFunc(x.Tasks, func(a, b api.Task) int { return a.Deadline - b.Deadline })
	}
	for range 2 + r.IntN(2) {
		x.Modes = append(x.Modes, api.Mode{Tasks: r.Uint32() & (1<<many - 1)})
	}
	for from := range x.Modes {
		for to := range x.Modes {
			if from != to {
				x.Edges = append(x.Edges, api.Edge{From: from, To: to, Protocol: min(api.Apart, api.Protocol(1+r.IntN(5)))})
			}
		}
	}
	maybe(t, x)
	return x
}

// search: what Find and Common are to answer, told number by number from 0 on.
func search(x api.Image, edge int) (o offsets, common int, ok bool) {
	l := fresh(x, edge)
	if !fit(x, edge, alike(l, offset.Far)) {
		return offsets{}, 0, false
	}
	for !fit(x, edge, alike(l, common)) {
		common++
	}
	o = alike(l, offset.Far)
	for _, i := range l {
		for o[i] = 0; !fit(x, edge, o); {
			o[i]++
		}
	}
	return o, common, true
}

// P20.1, P20.2, P20.3: whatever images, each number looked for from 0 on.
func TestMixture(t *testing.T) {
	r := rand.New(rand.NewPCG(20, 1))
	var found, apart, late, filled, unfilled int
	for range 600 {
		x := shuffled(t, r, 60+r.IntN(80), []int{8, 40, 300}[r.IntN(3)])
		want, first := image.Copy(x), -1
		for i, e := range x.Edges {
			o, common, ok := search(x, i)
			is(t, x, i, o, common, ok)
			switch {
			case !ok:
				late++
			case o != offsets{}:
				found++
			}
			if ok && o != alike(fresh(x, i), common) {
				apart++
			}
			if e.Protocol == api.Apart && !ok && first < 0 {
				first = i
			}
			if e.Protocol == api.Apart {
				want.Edges[i].Offsets = o
			}
		}
		if first >= 0 {
			fills(t, x, api.Image{}, first, false)
			unfilled++
			continue
		}
		fills(t, x, want, 0, true)
		maybe(t, want)
		filled++
	}
	if found < 200 || apart < 50 || late < 200 || filled < 50 || unfilled < 50 {
		t.Error(found, apart, late, filled, unfilled)
	}
}

// P20.4: found offsets fit; with one of them less by one, all that come behind it far, they don't. Nor does a common one that is less by one.
func TestFollows(t *testing.T) {
	r := rand.New(rand.NewPCG(20, 4))
	less, second := 0, 0
	for range 400 {
		x := shuffled(t, r, 60+r.IntN(80), []int{40, 400, 4096}[r.IntN(3)])
		for i := range x.Edges {
			o, ok := offset.Find(x, i)
			if !ok {
				continue
			}
			if !fit(x, i, o) {
				t.Fatalf("%+v, %d: %v don't fit", x, i, o)
			}
			l := fresh(x, i)
			for place, task := range l {
				if o[task] == 0 {
					continue
				}
				near := o
				near[task]--
				for _, behind := range l[place+1:] {
					near[behind] = offset.Far
				}
				if fit(x, i, near) {
					t.Fatalf("%+v, %d: %v fit, too, not just %v", x, i, near, o)
				}
				less++
				second += min(place, 1)
			}
			if n, ok := offset.Common(x, i); !ok || !fit(x, i, alike(l, n)) || n > 0 && fit(x, i, alike(l, n-1)) {
				t.Fatalf("Common(%+v, %d): %d, %v", x, i, n, ok)
			}
		}
	}
	if less < 200 || second < 50 {
		t.Error(less, second)
	}
}

// Where some offsets fit, greater ones do.
func TestGreater(t *testing.T) {
	r := rand.New(rand.NewPCG(20, 2))
	both := 0
	for range 300 {
		x := shuffled(t, r, 60+r.IntN(80), 400)
		for i := range x.Edges {
			var less, more offsets
			for _, task := range fresh(x, i) {
				less[task] = r.IntN(300)
				more[task] = less[task] + r.IntN(2)*r.IntN(offset.Far-300)
			}
			if fit(x, i, less) {
				both++
				if !fit(x, i, more) {
					t.Fatalf("%+v, %d: %v fit, %v don't", x, i, less, more)
				}
			}
		}
	}
	if both < 200 {
		t.Error(both)
	}
}

// P20.1: nobody is late with offsets that were found, when jobs come as fast as they may, and the change as all old ones come; without offsets some would be.
func TestNobodyLate(t *testing.T) {
	r := rand.New(rand.NewPCG(20, 6))
	played, otherwise := 0, 0
	for range 600 {
		x := shuffled(t, r, 60+r.IntN(80), 40)
		for i := range x.Tasks {
			x.Tasks[i].Longest = [api.MaxRes]int{}
		}
		for i, e := range x.Edges {
			o, ok := offset.Find(x, i)
			if !ok || o == (offsets{}) {
				continue
			}
			played++
			if task, late := play(x, e, o); late {
				t.Fatalf("%+v, %d, %v: the task %d is late", x, i, o, task)
			}
			if _, late := play(x, e, offsets{}); late {
				otherwise++
			}
		}
	}
	if played < 100 || otherwise < 50 {
		t.Error(played, otherwise)
	}
}

// play: is a job of a new mode's task late, or one of the old mode's that come at once with the change? For so many ticks as all that takes.
func play(x api.Image, e api.Edge, o offsets) (int, bool) {
	left, came := make([]int, len(x.Tasks)), make([]int, len(x.Tasks))
	for now := range 2000 {
		for task, k := range x.Tasks {
			stays := x.Modes[e.To].Tasks>>task&1 == 1
			old := x.Modes[e.From].Tasks>>task&1 == 1
			due := stays && now >= o[task] && (now-o[task])%k.Period == 0 || old && now == 0
			if left[task] > 0 && (due || now-came[task] >= k.Deadline) {
				return task, true
			}
			if due {
				left[task], came[task] = k.Cost, now
			}
		}
		for task := range left {
			if left[task] > 0 {
				left[task]--
				break
			}
		}
	}
	return 0, false
}

// P1: nothing panics, and all ends, also where nothing is promised: tasks and modes that there aren't, more of them than there may be, numbers of any size.
func TestRaw(t *testing.T) {
	numbers := append([]int{0, 1, 2, 3, 5, 100, 4096, 4097, 1 << 16, 1 << 20, 1 << 40}, outside...)
	r := rand.New(rand.NewPCG(20, 5))
	pick := func() int { return numbers[r.IntN(len(numbers))] }
	for range 1000 {
		x := api.Image{Res: pick()}
		for range r.IntN(40) {
			k := api.Task{Period: pick(), Deadline: pick(), Cost: pick()}
			k.Longest[r.IntN(8)] = pick()
			x.Tasks = append(x.Tasks, k)
		}
		for range r.IntN(4) {
			x.Modes = append(x.Modes, api.Mode{Tasks: r.Uint32(), Queues: make([]api.Queue, r.IntN(6))})
		}
		for range r.IntN(4) {
			x.Edges = append(x.Edges, api.Edge{From: r.IntN(5) - 1, To: r.IntN(5) - 1, Protocol: api.Protocol(r.IntN(6) - 1), Offsets: offsets{pick(), 15: pick()}})
		}
		given := image.Copy(x)
		for _, edge := range append([]int{0, 1, 2}, pick()) {
			offset.Find(x, edge)
			offset.Common(x, edge)
		}
		offset.Fill(x)
		if !image.Same(given, x) {
			t.Fatalf("%+v is changed to %+v", given, x)
		}
	}
}

// Tasks past those that have an offset: nothing is promised of them, but nothing panics.
func TestPastTasks(t *testing.T) {
	for _, many := range []int{1, 16, 17, 32, 40} {
		x := api.Image{Tasks: slices.Repeat([]api.Task{task(4096, 1)}, many), Modes: []api.Mode{{}, {Tasks: 1<<32 - 1}}}
		x.Edges = []api.Edge{{From: 0, To: 1, Protocol: api.Apart}, {From: 1, To: 0, Protocol: api.Apart}}
		for edge := range x.Edges {
			offset.Find(x, edge)
			offset.Common(x, edge)
		}
		offset.Fill(x)
	}
}
