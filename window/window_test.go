package window_test

import (
	"math"
	"math/rand/v2"
	"reflect"
	"slices"
	"testing"

	"remontoir/api"
	"remontoir/image"
	"remontoir/mask"
	"remontoir/window"
)

// far are numbers of no edge, and of no task.
var far = []int{-1, -2, -16, 16, 17, 24, 31, 32, 33, 64, 1 << 31, 1 << 32, 1<<32 + 1, -1 << 32, math.MinInt32, math.MinInt, math.MinInt + 1, math.MaxInt - 1, math.MaxInt}

// offsets are those that are handed to New.
type offsets = [api.MaxTasks]int

// none is of a task that has no window, or no time behind.
const none = 0

// holding: a task that holds resources.
func holding(k api.Task, longest ...int) api.Task {
	copy(k.Longest[:], longest)
	return k
}

// of: an image of these tasks, that may be, with one edge between modes of these sets.
func of(t *testing.T, from, to mask.Set, l ...api.Task) api.Image {
	t.Helper()
	x := api.Image{Res: 8, Tasks: l, Modes: []api.Mode{{Tasks: uint32(from)}, {Tasks: uint32(to)}}}
	x.Edges = []api.Edge{{From: 0, To: 1, Protocol: api.Apart}}
	maybe(t, x)
	return x
}

// maybe holds that an image may be.
func maybe(t *testing.T, x api.Image) {
	t.Helper()
	if at, e := image.Check(x); e != api.OK {
		t.Fatalf("%+v may not be: %d, %v", x, at, e)
	}
}

// has: is a task in one of these modes of an image?
func has(x api.Image, task int, modes ...int) bool {
	return slices.ContainsFunc(modes, func(m int) bool { return x.Modes[m].Tasks>>task&1 == 1 })
}

// waits: how long a task may have to wait for those of the modes that go behind it, resource by resource.
func waits(x api.Image, task int, modes ...int) int {
	all := 0
	for res := range api.MaxRes {
		shared, most := false, 0
		for i, k := range x.Tasks {
			if !has(x, i, modes...) {
				continue
			}
			if i > task {
				most = max(most, k.Longest[res])
			} else if k.Longest[res] > 0 {
				shared = true
			}
		}
		if shared {
			all += most
		}
	}
	return all
}

// ends: when work that is there at first, and jobs of tasks that come as fast as they may from their offsets on, are done, tick by tick; none: not up to a bound.
func ends(work, most int, l []api.Task, from []int) int {
	for now := range most {
		for i, k := range l {
			if now >= from[i] && (now-from[i])%k.Period == 0 {
				work += k.Cost
			}
		}
		if work--; work == 0 {
			return now + 1
		}
	}
	return none
}

// told is what is to be answered of a shift.
type told struct {
	windows, behinds []int
	late             []int
	span             window.Span
}

// tell: what is to be answered of a shift along an edge, told tick by tick.
func tell(x api.Image, edge int, o offsets) told {
	e := x.Edges[edge]
	var w told
	for task, k := range x.Tasks {
		fresh := has(x, task, e.To) && !has(x, task, e.From)
		if !fresh {
			o[task] = 0
		}
		within, behind := none, none
		if has(x, task, e.From, e.To) {
			own := k.Cost + waits(x, task, e.From, e.To)
			var both, to []api.Task
			var from []int
			for i, a := range x.Tasks[:task] {
				if has(x, i, e.From, e.To) {
					both, from = append(both, a), append(from, o[i])
				}
				if has(x, i, e.To) {
					to = append(to, a)
				}
			}
			within = ends(own, k.Deadline+o[task], both, from)
			if has(x, task, e.To) {
				behind = ends(own, k.Deadline, to, make([]int, len(to)))
			}
			if within == none || behind == none && has(x, task, e.To) {
				w.late = append(w.late, task)
			}
			w.span.Settle = max(w.span.Settle, within, behind)
			w.span.Latency = max(w.span.Latency, o[task])
		}
		w.windows, w.behinds = append(w.windows, within), append(w.behinds, behind)
	}
	w.span.Latency = max(w.span.Latency, w.span.Settle)
	if len(w.late) > 0 {
		w.span = window.Span{}
	}
	return w
}

// holds holds what a shift's calls answer, each time the same.
func holds(t *testing.T, s window.Shift, want told) {
	t.Helper()
	for range 2 {
		for task, n := range want.windows {
			if got, ok := s.Window(task); got != n || ok != (n != none) {
				t.Errorf("Window(%d): %d, %v, not %d", task, got, ok, n)
			}
		}
		for task, n := range want.behinds {
			if got, ok := s.Behind(task); got != n || ok != (n != none) {
				t.Errorf("Behind(%d): %d, %v, not %d", task, got, ok, n)
			}
		}
		for _, task := range append([]int{len(want.windows)}, far...) {
			if n, ok := s.Window(task); n != 0 || ok {
				t.Errorf("Window(%d): %d, %v", task, n, ok)
			}
			if n, ok := s.Behind(task); n != 0 || ok {
				t.Errorf("Behind(%d): %d, %v", task, n, ok)
			}
		}
		if l := slices.Collect(s.Late()); !slices.Equal(l, want.late) {
			t.Errorf("Late: %v, not %v", l, want.late)
		}
		if p, ok := s.Span(); p != want.span || ok != (len(want.late) == 0) {
			t.Errorf("Span: %v, %v, not %v", p, ok, want.span)
		}
	}
}

// is holds what a shift along the edge 0 answers.
func is(t *testing.T, x api.Image, o offsets, want told) {
	t.Helper()
	given := image.Copy(x)
	for range 2 {
		s, ok := window.New(x, 0, o)
		if !ok {
			t.Error("New")
		}
		holds(t, s, want)
	}
	if !reflect.DeepEqual(given, x) {
		t.Errorf("%+v is changed to %+v", given, x)
	}
}

// spans holds what Edge answers of an edge, each time the same.
func spans(t *testing.T, x api.Image, edge int, want window.Span, is bool) {
	t.Helper()
	given := image.Copy(x)
	for range 2 {
		if p, ok := window.Edge(x, edge); p != want || ok != is {
			t.Errorf("Edge(%+v, %d): %v, %v, not %v, %v", x, edge, p, ok, want, is)
		}
	}
	if !reflect.DeepEqual(given, x) {
		t.Errorf("%+v is changed to %+v", given, x)
	}
}

// The chapter's example, either way round.
func TestExample(t *testing.T) {
	x := of(t, 2, 3, api.Task{Period: 10, Deadline: 10, Cost: 2}, api.Task{Period: 20, Deadline: 20, Cost: 5})
	is(t, x, offsets{}, told{[]int{2, 7}, []int{2, 7}, nil, window.Span{Latency: 7, Settle: 7}})
	spans(t, x, 0, window.Span{Latency: 7, Settle: 7}, true)
}

// P19.1: windows are of both modes' tasks, times behind of the new mode's, and each kind of task has its own.
func TestKinds(t *testing.T) {
	k := func(period, cost int) api.Task { return api.Task{Period: period, Deadline: period, Cost: cost} }
	x := of(t, mask.Of(1, 3), mask.Of(2, 3), k(5, 5), k(20, 2), k(30, 3), k(40, 4), k(50, 5))
	is(t, x, offsets{}, told{[]int{0, 2, 5, 9, 0}, []int{0, 0, 3, 7, 0}, nil, window.Span{Latency: 9, Settle: 9}})
	x.Modes[0], x.Modes[1] = x.Modes[1], x.Modes[0]
	is(t, x, offsets{}, told{[]int{0, 2, 5, 9, 0}, []int{0, 2, 0, 6, 0}, nil, window.Span{Latency: 9, Settle: 9}})
	x.Modes[1].Tasks = 0
	is(t, x, offsets{}, told{[]int{0, 0, 3, 7, 0}, []int{0, 0, 0, 0, 0}, nil, window.Span{Latency: 7, Settle: 7}})
}

// P19.1: ceilings are of all tasks of both modes, and all of them may hold, old ones, too, while a new one comes.
func TestCeilings(t *testing.T) {
	x := of(t, mask.Of(0, 3), mask.Of(1, 2),
		holding(api.Task{Period: 100, Deadline: 100, Cost: 2}, 1),
		api.Task{Period: 100, Deadline: 100, Cost: 3},
		holding(api.Task{Period: 100, Deadline: 100, Cost: 4}, 2, 4),
		holding(api.Task{Period: 100, Deadline: 100, Cost: 5}, 3, 5, 1))
	// The ceilings are 0, 2, 3: of the old task alone it has the first one's, so the new mode's own tasks would have none of it.
	is(t, x, offsets{}, told{[]int{5, 8, 17, 14}, []int{none, 6, 15, none}, nil, window.Span{Latency: 17, Settle: 17}})
	// Without the old mode's last one nothing is held behind the new ones.
	x.Modes[0].Tasks = 1
	is(t, x, offsets{}, told{[]int{4, 7, 9, none}, []int{none, 5, 7, none}, nil, window.Span{Latency: 9, Settle: 9}})
	// Without the old mode's first one nobody of the new ones shares what its last one holds, but the third one's.
	x.Modes[0].Tasks = 8
	is(t, x, offsets{}, told{[]int{none, 3, 15, 12}, []int{none, 3, 15, none}, nil, window.Span{Latency: 15, Settle: 15}})
	// A task that is in neither mode counts for nothing.
	x.Tasks = append(x.Tasks, holding(api.Task{Period: 50, Deadline: 50, Cost: 50}, 50, 50, 50))
	is(t, x, offsets{}, told{[]int{none, 3, 15, 12, none}, []int{none, 3, 15, none, none}, nil, window.Span{Latency: 15, Settle: 15}})
}

// P19.1: a new task's jobs count from its offset on, in the windows of those behind it; its own window may be longer by its offset.
func TestOffsets(t *testing.T) {
	x := of(t, 4, 7, api.Task{Period: 10, Deadline: 10, Cost: 4}, api.Task{Period: 20, Deadline: 15, Cost: 5}, api.Task{Period: 40, Deadline: 13, Cost: 3})
	behinds := []int{4, 9, none}
	is(t, x, offsets{}, told{[]int{4, 9, none}, behinds, []int{2}, window.Span{}})
	x.Tasks[2].Deadline, behinds[2] = 16, 16
	for _, c := range []struct {
		o       offsets
		windows []int
		span    window.Span
	}{
		{offsets{}, []int{4, 9, 16}, window.Span{Latency: 16, Settle: 16}},
		{offsets{1}, []int{4, 9, 16}, window.Span{Latency: 16, Settle: 16}},
		{offsets{2}, []int{4, 9, 12}, window.Span{Latency: 16, Settle: 16}},
		{offsets{4}, []int{4, 9, 12}, window.Span{Latency: 16, Settle: 16}},
		{offsets{5}, []int{4, 5, 12}, window.Span{Latency: 16, Settle: 16}},
		{offsets{7}, []int{4, 5, 12}, window.Span{Latency: 16, Settle: 16}},
		{offsets{8}, []int{4, 5, 8}, window.Span{Latency: 16, Settle: 16}},
		{offsets{8, 3}, []int{4, 5, 3}, window.Span{Latency: 16, Settle: 16}},
		{offsets{2, 2}, []int{4, 9, 12}, window.Span{Latency: 16, Settle: 16}},
		{offsets{2, 3}, []int{4, 9, 12}, window.Span{Latency: 16, Settle: 16}},
		{offsets{3, 3}, []int{4, 9, 3}, window.Span{Latency: 16, Settle: 16}},
		{offsets{16, 16}, []int{4, 5, 3}, window.Span{Latency: 16, Settle: 16}},
		{offsets{17, 16}, []int{4, 5, 3}, window.Span{Latency: 17, Settle: 16}},
		{offsets{0, api.MaxOffset}, []int{4, 9, 7}, window.Span{Latency: api.MaxOffset, Settle: 16}},
		{offsets{api.MaxOffset, api.MaxOffset}, []int{4, 5, 3}, window.Span{Latency: api.MaxOffset, Settle: 16}},
	} {
		is(t, x, c.o, told{c.windows, behinds, nil, c.span})
	}
}

// P19.1: the window is up to the Deadline and the task's own offset together, and no tick longer; an offset of another one doesn't count there.
func TestBound(t *testing.T) {
	full := api.Task{Period: 100, Deadline: 100, Cost: 20}
	x := of(t, 1, 2, full, api.Task{Period: 100, Deadline: 5, Cost: 5})
	is(t, x, offsets{0, 19}, told{[]int{20, none}, []int{none, 5}, []int{1}, window.Span{}})
	is(t, x, offsets{0, 20}, told{[]int{20, 25}, []int{none, 5}, nil, window.Span{Latency: 25, Settle: 25}})
	is(t, x, offsets{0, 26}, told{[]int{20, 25}, []int{none, 5}, nil, window.Span{Latency: 26, Settle: 25}})
	x = of(t, 0, 3, full, api.Task{Period: 100, Deadline: 24, Cost: 5})
	is(t, x, offsets{0, 1}, told{[]int{20, 25}, []int{20, none}, []int{1}, window.Span{}})
	is(t, x, offsets{4}, told{[]int{20, none}, []int{20, none}, []int{1}, window.Span{}})
	is(t, x, offsets{5}, told{[]int{20, 5}, []int{20, none}, []int{1}, window.Span{}})
	x.Tasks[1].Deadline = 25
	is(t, x, offsets{}, told{[]int{20, 25}, []int{20, 25}, nil, window.Span{Latency: 25, Settle: 25}})
}

// P19.1: the greatest offset gives the greatest bound; one tick more of work is late.
func TestFar(t *testing.T) {
	most := api.Task{Period: api.MaxPeriod, Deadline: api.MaxPeriod, Cost: api.MaxPeriod}
	x := of(t, 1, 2, most, most)
	// The old one comes again at once, for ever.
	is(t, x, offsets{0, api.MaxOffset}, told{[]int{4096, none}, []int{none, 4096}, []int{1}, window.Span{}})
	// Four fifths of all time are gone, so the new one's 4096 ticks take five times as long: just up to its bound.
	x.Tasks[0] = api.Task{Period: 5, Deadline: 5, Cost: 4}
	is(t, x, offsets{0, api.MaxOffset}, told{[]int{4, 4096 * 5}, []int{none, 4096}, nil, window.Span{Latency: 4096 * 5, Settle: 4096 * 5}})
	is(t, x, offsets{0, api.MaxOffset - 1}, told{[]int{4, none}, []int{none, 4096}, []int{1}, window.Span{}})
}

// P19.1: tasks that aren't new come from 0 on, whatever their offsets say.
func TestOthersOffsets(t *testing.T) {
	x := of(t, 3, 6, api.Task{Period: 10, Deadline: 10, Cost: 3}, api.Task{Period: 10, Deadline: 10, Cost: 3}, api.Task{Period: 30, Deadline: 30, Cost: 3}, api.Task{Period: 10, Deadline: 10, Cost: 3})
	want := told{[]int{3, 6, 9, none}, []int{none, 3, 6, none}, nil, window.Span{Latency: 9, Settle: 9}}
	for _, n := range append([]int{0, 1, 5, 100, api.MaxOffset}, far...) {
		var o offsets
		for task := range o {
			o[task] = n
		}
		o[2] = 0
		is(t, x, o, want)
	}
	x.Tasks[1].Deadline, x.Tasks[1].Period = 5, 10
	want = told{[]int{3, none, 9, none}, []int{none, 3, 6, none}, []int{1}, window.Span{}}
	is(t, x, offsets{1: api.MaxOffset}, want)
}

// P19.1: no such edge: there is no shift, and what is answered instead has nothing.
func TestNoEdge(t *testing.T) {
	x := of(t, 1, 1, api.Task{Period: 10, Deadline: 10, Cost: 3})
	x.Edges = append(x.Edges, x.Edges[0])[:1] // what lies behind the length is no edge
	for _, edge := range append([]int{1, 2}, far...) {
		for range 2 {
			s, ok := window.New(x, edge, offsets{1, 2, 3})
			if ok || !reflect.DeepEqual(s, window.Shift{}) {
				t.Errorf("New(%d): %+v, %v", edge, s, ok)
			}
			holds(t, s, told{})
		}
		spans(t, x, edge, window.Span{}, false)
	}
	for _, x := range []api.Image{{}, of(t, 1, 0, x.Tasks...)} {
		x.Edges = nil
		if s, ok := window.New(x, 0, offsets{}); ok || !reflect.DeepEqual(s, window.Shift{}) {
			t.Errorf("New: %+v, %v", s, ok)
		}
		spans(t, x, 0, window.Span{}, false)
	}
}

// P19.1, rule 8: Late may be left at any time, and gone through again; either cause makes a task late, and it is told once.
func TestLate(t *testing.T) {
	k := api.Task{Period: 100, Deadline: 20, Cost: 15}
	x := of(t, mask.Of(0, 2, 3), mask.Of(1, 3, 4, 5), k, k, k, k, k, k)
	want := told{[]int{15, none, none, none, 75, 90}, []int{none, 15, none, none, none, none}, []int{1, 2, 3, 4, 5}, window.Span{}}
	o := offsets{4: 55, 5: 70}
	is(t, x, o, want)
	s, _ := window.New(x, 0, o)
	l := s.Late()
	for many := range want.late {
		var got []int
		for task := range l {
			got = append(got, task)
			if len(got) > many {
				break
			}
		}
		if !slices.Equal(got, want.late[:many+1]) {
			t.Errorf("Late: %v, not %v", got, want.late[:many+1])
		}
	}
	for range 2 {
		if got := slices.Collect(l); !slices.Equal(got, want.late) {
			t.Errorf("Late: %v, not %v", got, want.late)
		}
	}
	if s.Late() == nil || (window.Shift{}).Late() == nil {
		t.Error("nil")
	}
}

// P19.1: the window alone makes a task late, or the time behind alone.
func TestCauses(t *testing.T) {
	k := api.Task{Period: 100, Deadline: 20, Cost: 15}
	is(t, of(t, 3, 2, k, k), offsets{}, told{[]int{15, none}, []int{none, 15}, []int{1}, window.Span{}})
	is(t, of(t, 1, 2, k, k), offsets{1: 10}, told{[]int{15, 30}, []int{none, 15}, nil, window.Span{Latency: 30, Settle: 30}})
	is(t, of(t, 0, 3, k, k), offsets{1: 10}, told{[]int{15, 30}, []int{15, none}, []int{1}, window.Span{}})
	is(t, of(t, 3, 0, k, k), offsets{1: 10}, told{[]int{15, none}, []int{none, none}, []int{1}, window.Span{}})
}

// P19.2: of no tasks nothing takes any time; it is all the same a Span.
func TestNoTasks(t *testing.T) {
	x := of(t, 0, 0, api.Task{Period: 10, Deadline: 10, Cost: 3})
	is(t, x, offsets{5, 6}, told{[]int{none}, []int{none}, nil, window.Span{}})
	for p, span := range []window.Span{{Latency: 1}, {}, {}} {
		x.Edges[0].Protocol = api.Protocol(p + 1)
		spans(t, x, 0, span, true)
	}
}

// P19.2: Settle is the greatest time of all, be it a window or a time behind, of whichever task; Latency may be an offset.
func TestSpan(t *testing.T) {
	x := of(t, 8, 7, api.Task{Period: 50, Deadline: 50, Cost: 10}, api.Task{Period: 50, Deadline: 50, Cost: 5}, api.Task{Period: 50, Deadline: 50, Cost: 2}, api.Task{Period: 50, Deadline: 50, Cost: 20})
	is(t, x, offsets{}, told{[]int{10, 15, 17, 37}, []int{10, 15, 17, none}, nil, window.Span{Latency: 37, Settle: 37}})
	is(t, x, offsets{20, 20, 20}, told{[]int{10, 5, 2, 20}, []int{10, 15, 17, none}, nil, window.Span{Latency: 20, Settle: 20}})
	is(t, x, offsets{20, 22, 20}, told{[]int{10, 5, 2, 20}, []int{10, 15, 17, none}, nil, window.Span{Latency: 22, Settle: 20}})
	is(t, x, offsets{20, 20, 31}, told{[]int{10, 5, 2, 20}, []int{10, 15, 17, none}, nil, window.Span{Latency: 31, Settle: 20}})
	x.Tasks[3].Cost = 1 // now a time behind is the greatest one
	is(t, x, offsets{10, 10, 10}, told{[]int{10, 5, 2, 1}, []int{10, 15, 17, none}, nil, window.Span{Latency: 17, Settle: 17}})
	x.Tasks[2] = api.Task{Period: 50, Deadline: 17, Cost: 3}
	is(t, x, offsets{10, 40, 10}, told{[]int{10, 5, 3, 1}, []int{10, 15, none, none}, []int{2}, window.Span{}})
}

// P19.3: the greatest period of those of the set that the image has.
func TestLongest(t *testing.T) {
	k := func(period int) api.Task { return api.Task{Period: period, Deadline: 1, Cost: 1} }
	x := of(t, 0, 0, k(7), k(4096), k(1), k(9))
	for _, c := range []struct {
		s    mask.Set
		want int
	}{
		{0, 0}, {1, 7}, {2, 4096}, {4, 1}, {8, 9}, {5, 7}, {9, 9}, {12, 9}, {13, 9}, {15, 4096},
		{1<<32 - 16, 0}, {1<<32 - 1, 4096}, {1<<32 - 12, 1}, {1<<31 | 1, 7},
	} {
		for range 2 {
			if n := window.Longest(x, c.s); n != c.want {
				t.Errorf("Longest(%x): %d, not %d", c.s, n, c.want)
			}
		}
	}
	x.Tasks = x.Tasks[:1] // what lies behind the length is no task
	if n := window.Longest(x, 15); n != 7 {
		t.Error(n)
	}
	if n := window.Longest(api.Image{}, 1<<32-1); n != 0 {
		t.Error(n)
	}
}

// P19.3: each protocol by its own rule; Idle asks for the old mode's tasks alone, Longest for both modes', and only Apart for deadlines.
func TestProtocols(t *testing.T) {
	x := of(t, 3, 5, api.Task{Period: 10, Deadline: 10, Cost: 2}, api.Task{Period: 20, Deadline: 6, Cost: 5}, api.Task{Period: 40, Deadline: 20, Cost: 8})
	x.Modes = append(x.Modes, api.Mode{Tasks: 2}, api.Mode{Tasks: 1})
	x.Edges = []api.Edge{
		{From: 0, To: 1, Protocol: api.Idle},
		{From: 1, To: 0, Protocol: api.Idle},
		{From: 0, To: 2, Protocol: api.Longest},
		{From: 0, To: 3, Protocol: api.Longest},
		{From: 3, To: 1, Protocol: api.Longest},
		{From: 3, To: 1, Protocol: api.Apart},
		{From: 3, To: 2, Protocol: api.Apart},
		{From: 2, To: 3, Protocol: api.Apart, Offsets: offsets{4}},
		{From: 2, To: 3, Protocol: api.Apart, Offsets: offsets{5}},
		{From: 2, To: 1, Protocol: api.Apart, Offsets: offsets{16, 0, 9}},
		{From: 1, To: 3, Protocol: api.Apart},
	}
	for edge, want := range []window.Span{
		{Latency: 16}, {Latency: 24}, {Latency: 20}, {Latency: 20}, {Latency: 40},
		{Latency: 10, Settle: 10}, {},
		{}, {Latency: 5, Settle: 5}, {Latency: 16, Settle: 13}, {Latency: 10, Settle: 10},
	} {
		spans(t, x, edge, want, edge < 6 || edge > 7)
	}
}

// P19.3: a mode in which there is always work never comes to Idle; that there are no deadlines missed elsewhere doesn't count.
func TestIdle(t *testing.T) {
	k := func(period, cost int) api.Task { return api.Task{Period: period, Deadline: period, Cost: cost} }
	x := of(t, 3, 4, k(2, 1), k(2, 1), k(4096, 4096))
	x.Edges[0].Protocol = api.Idle
	spans(t, x, 0, window.Span{}, false)
	x.Modes[0].Tasks, x.Modes[1].Tasks = 4, 3
	spans(t, x, 0, window.Span{}, false)
	x.Modes[0].Tasks = 1
	spans(t, x, 0, window.Span{Latency: 2}, true)
	x.Modes[0].Tasks = 0
	spans(t, x, 0, window.Span{Latency: 1}, true)
	// It may take just as long as MaxWindow says: 2048 ticks that were there, and 31 times as many that come.
	x = of(t, 1, 2, k(2115, 2048), k(2114, 2048))
	x.Edges[0].Protocol = api.Idle
	spans(t, x, 0, window.Span{Latency: api.MaxWindow}, true)
	x.Modes[0].Tasks, x.Modes[1].Tasks = 2, 1
	spans(t, x, 0, window.Span{}, false)
}

// shuffled: an image of some tasks that ask for so many hundredths of all time, as it comes, of some resources, with as many edges as may be.
func shuffled(t *testing.T, r *rand.Rand, hundredths int) api.Image {
	t.Helper()
	x := api.Image{Res: r.IntN(9)}
	many := 1 + r.IntN(16)
	scale := []int{10, 40, 400, 4096}[r.IntN(4)]
	for range many {
		k := api.Task{Period: 1 + r.IntN(scale)}
		k.Cost = min(1+k.Period*r.IntN(2*hundredths+1)/many/100, k.Period)
		k.Deadline = max(k.Cost, k.Period-r.IntN(4)/3*r.IntN(k.Period))
		for i := range x.Res {
			if r.IntN(5) == 0 {
				k.Longest[i] = 1 + r.IntN(1+k.Cost/3)
			}
		}
		x.Tasks = append(x.Tasks, k)
	}
	// Mostly as deadlines rise, so that some are in time.
	if r.IntN(5) > 0 {
		slices.SortFunc(x.Tasks, func(a, b api.Task) int { return a.Deadline - b.Deadline })
	}
	for range 2 + r.IntN(3) {
		x.Modes = append(x.Modes, api.Mode{Tasks: r.Uint32() & (1<<many - 1)})
	}
	for from := range x.Modes {
		for to := range x.Modes {
			if from == to {
				continue
			}
			e := api.Edge{From: from, To: to, Protocol: api.Protocol(1 + r.IntN(3))}
			if e.Protocol == api.Apart {
				e.Offsets = fresh(x, r, from, to)
			}
			x.Edges = append(x.Edges, e)
		}
	}
	maybe(t, x)
	return x
}

// fresh: some offsets of those tasks that are in a mode, and not in another one.
func fresh(x api.Image, r *rand.Rand, from, to int) offsets {
	var o offsets
	for task, k := range x.Tasks {
		if has(x, task, to) && !has(x, task, from) {
			o[task] = r.IntN([]int{1, 1 + k.Cost, 1 + k.Period, api.MaxOffset + 1}[r.IntN(4)])
		}
	}
	return o
}

// P19.1, P19.2, P19.3: whatever images, edges and offsets, held against what is told tick by tick.
func TestMixture(t *testing.T) {
	r := rand.New(rand.NewPCG(19, 1))
	fit, late := 0, 0
	for range 400 {
		x := shuffled(t, r, 10+r.IntN(90))
		given := image.Copy(x)
		for i, e := range x.Edges {
			o := fresh(x, r, e.From, e.To)
			want := tell(x, i, o)
			s, ok := window.New(x, i, o)
			if !ok {
				t.Fatalf("New(%+v, %d, %v)", x, i, o)
			}
			holds(t, s, want)
			if t.Failed() {
				t.Fatalf("%+v, %d, %v", x, i, o)
			}
			if len(want.late) == 0 {
				fit++
			} else {
				late++
			}
			span, is := protocol(x, i)
			spans(t, x, i, span, is)
		}
		if !reflect.DeepEqual(given, x) {
			t.Fatalf("%+v is changed to %+v", given, x)
		}
	}
	if fit < 300 || late < 300 {
		t.Error(fit, late)
	}
}

// protocol: what Edge is to answer.
func protocol(x api.Image, edge int) (window.Span, bool) {
	e := x.Edges[edge]
	longest, work := 0, 0
	var old []api.Task
	for task, k := range x.Tasks {
		if has(x, task, e.From, e.To) {
			longest = max(longest, k.Period)
		}
		if has(x, task, e.From) {
			old = append(old, k)
			work += k.Cost
		}
	}
	switch e.Protocol {
	case api.Apart:
		want := tell(x, edge, e.Offsets)
		return want.span, len(want.late) == 0
	case api.Longest:
		return window.Span{Latency: longest}, true
	}
	if work == 0 {
		return window.Span{Latency: 1}, true
	}
	n := ends(work, api.MaxWindow, old, make([]int, len(old)))
	return window.Span{Latency: n}, n != none
}

// P19.4: with greater offsets of others no window is longer, and none is lost.
func TestGreaterOffsets(t *testing.T) {
	r := rand.New(rand.NewPCG(19, 4))
	shorter, found := 0, 0
	for range 300 {
		x := shuffled(t, r, 10+r.IntN(150))
		for i, e := range x.Edges {
			less, more := fresh(x, r, e.From, e.To), fresh(x, r, e.From, e.To)
			for task := range more {
				more[task] = max(less[task], more[task])
			}
			s, _ := window.New(x, i, less)
			for task := range x.Tasks {
				before, was := s.Window(task)
				others := more
				others[task] = less[task]
				next, _ := window.New(x, i, others)
				behind, is := next.Window(task)
				if was && (!is || behind > before) {
					t.Fatalf("%+v, %d, %v, %v, %d: %d, then %d, %v", x, i, less, others, task, before, behind, is)
				}
				if is {
					found++
				}
				if is && (!was || behind < before) {
					shorter++
				}
			}
		}
	}
	if found < 1000 || shorter < 300 {
		t.Error(found, shorter)
	}
}

// Rule 5: a shift is what it was, whatever becomes of the image.
func TestKeepsNothing(t *testing.T) {
	x := of(t, 2, 3, api.Task{Period: 10, Deadline: 10, Cost: 2}, api.Task{Period: 20, Deadline: 20, Cost: 5})
	s, _ := window.New(x, 0, offsets{})
	l := s.Late()
	x.Tasks[0] = api.Task{Period: 1, Deadline: 1, Cost: 1}
	x.Modes[0], x.Edges[0] = api.Mode{}, api.Edge{}
	holds(t, s, told{[]int{2, 7}, []int{2, 7}, nil, window.Span{Latency: 7, Settle: 7}})
	for task := range l {
		t.Error(task)
	}
}

// all calls all that there is of an image, whose numbers may be of any kind.
func all(x api.Image, edge int, o offsets, s mask.Set) {
	shift, _ := window.New(x, edge, o)
	for _, task := range append([]int{0, 1, 15}, far...) {
		shift.Window(task)
		shift.Behind(task)
	}
	for range shift.Late() {
	}
	shift.Span()
	window.Longest(x, s)
	window.Edge(x, edge)
}

// P1: nothing panics, and all ends, also where nothing is promised.
func TestRaw(t *testing.T) {
	numbers := append([]int{0, 1, 2, 3, 5, 100, 4096, 4097, 1 << 16, 1 << 20, 1 << 40}, far...)
	r := rand.New(rand.NewPCG(19, 5))
	pick := func() int { return numbers[r.IntN(len(numbers))] }
	for range 2000 {
		x := api.Image{Res: pick()}
		for range r.IntN(40) {
			k := api.Task{Period: pick(), Deadline: pick(), Cost: pick()}
			k.Longest[r.IntN(8)] = pick()
			x.Tasks = append(x.Tasks, k)
		}
		for range r.IntN(4) {
			x.Modes = append(x.Modes, api.Mode{Tasks: r.Uint32()})
		}
		for range r.IntN(4) {
			x.Edges = append(x.Edges, api.Edge{From: r.IntN(5) - 1, To: r.IntN(5) - 1, Protocol: api.Protocol(r.IntN(6) - 1), Offsets: offsets{pick(), 15: pick()}})
		}
		var o offsets
		for task := range o {
			o[task] = pick()
		}
		all(x, r.IntN(5)-1, o, mask.Set(r.Uint32()))
	}
}
