package image_test

import (
	"math"
	"math/rand/v2"
	"reflect"
	"slices"
	"testing"

	"remontoir/api"
	"remontoir/image"
	"remontoir/mask"
)

// far are numbers that are out of all bounds.
var far = []int{-1, -2, -32, -33, 1 << 20, 1 << 31, 1 << 32, 1<<32 + 1, -1 << 32, math.MinInt32, math.MinInt, math.MinInt + 1, math.MaxInt - 1, math.MaxInt}

// whole: an image that has of all that may be something: three tasks, three modes with queues, an edge of each protocol, with a map and an offset.
func whole() api.Image {
	x := api.Image{
		Res:   3,
		Tasks: []api.Task{{Period: 10, Deadline: 9, Cost: 4}, {Period: 20, Deadline: 18, Cost: 5}, {Period: 4096, Deadline: 4096, Cost: 4096}},
		Modes: []api.Mode{
			{Tasks: 3, Queues: []api.Queue{{Cap: 1, Policy: api.Refuse}, {Cap: 16, Policy: api.DropOld}}},
			{Tasks: 6, Queues: []api.Queue{{Cap: 2, Policy: api.DropNew}, {Cap: 3, Policy: api.DropOld}, {Cap: 4, Policy: api.Refuse}}},
			{Tasks: 0},
		},
		Edges: []api.Edge{{From: 0, To: 1, Protocol: api.Apart, Map: [4]int{3, 1}}, {From: 1, To: 0, Protocol: api.Longest, Map: [4]int{0, 2}}, {From: 2, To: 0, Protocol: api.Idle}},
	}
	x.Tasks[0].Longest[0], x.Tasks[0].Longest[2] = 4, 1
	x.Tasks[1].Longest[2] = 5
	x.Tasks[2].Longest[1] = 4096
	x.Edges[0].Offsets[2] = 1 << 14
	return x
}

// greatest: an image that has as much of all as may be.
func greatest() api.Image {
	x := api.Image{Res: 8}
	for range 16 {
		x.Tasks = append(x.Tasks, api.Task{Period: 4096, Deadline: 4096, Cost: 4096, Longest: [8]int{4096, 4096, 4096, 4096, 4096, 4096, 4096, 4096}})
	}
	for m := range 8 {
		x.Modes = append(x.Modes, api.Mode{Tasks: 0xffff >> m, Queues: slices.Repeat([]api.Queue{{Cap: 16, Policy: api.DropNew}}, 4)})
	}
	for i := range 24 {
		x.Edges = append(x.Edges, api.Edge{From: i / 7, To: (i/7 + i%7 + 1) % 8, Protocol: api.Longest, Map: [4]int{4, 3, 2, 1}})
	}
	return x
}

// plain: the example's image.
func plain() api.Image {
	return api.Image{Tasks: []api.Task{{Period: 10, Deadline: 8, Cost: 2}}, Modes: []api.Mode{{Tasks: 1}}}
}

// is holds what Check answers against what it is to answer, and that the image stays.
func is(t *testing.T, x api.Image, at int, want api.Errno) {
	t.Helper()
	given := image.Copy(x)
	for range 2 { // P2: the same each time
		if n, e := image.Check(x); n != at || e != want {
			t.Errorf("Check(%+v): %d, %v, not %d, %v", x, n, e, at, want)
		}
	}
	if !reflect.DeepEqual(given, x) {
		t.Errorf("%+v is changed to %+v", given, x)
	}
}

// turned holds what Check answers of an image that is turned.
func turned(t *testing.T, x api.Image, at int, want api.Errno, turn func(*api.Image)) {
	t.Helper()
	turn(&x)
	is(t, x, at, want)
}

// The chapter's example.
func TestExample(t *testing.T) {
	is(t, plain(), 0, api.OK)
}

// P10.1: images that may be.
func TestMayBe(t *testing.T) {
	is(t, whole(), 0, api.OK)
	is(t, greatest(), 0, api.OK)
	least := api.Image{Tasks: []api.Task{{Period: 1, Deadline: 1, Cost: 1}}, Modes: []api.Mode{{}}}
	is(t, least, 0, api.OK)
	// An empty list is a nil one.
	least.Edges, least.Modes[0].Queues = []api.Edge{}, []api.Queue{}
	is(t, least, 0, api.OK)
}

// P10.1: how many resources there are; that goes ahead of all.
func TestRes(t *testing.T) {
	for _, n := range append([]int{9, 10, 16}, far...) {
		turned(t, whole(), 0, api.ErrRes, func(x *api.Image) { x.Res = n })
		is(t, api.Image{Res: n}, 0, api.ErrRes)
	}
	for n := range 9 {
		turned(t, plain(), 0, api.OK, func(x *api.Image) { x.Res = n })
	}
}

// P10.1: how many tasks there are; that goes ahead of each.
func TestManyTasks(t *testing.T) {
	for _, many := range []int{0, 1, 2, 15, 16, 17, 18, 31, 32, 33, 64, 1000} {
		x := plain()
		x.Tasks = slices.Repeat(x.Tasks, many)
		if many < 1 || many > 16 {
			is(t, x, many, api.ErrTask)
			x.Modes = nil
			is(t, x, many, api.ErrTask)
			if many > 0 {
				x.Tasks[0].Period = 0
				is(t, x, many, api.ErrTask)
			}
			continue
		}
		is(t, x, 0, api.OK)
	}
	turned(t, whole(), 0, api.ErrTask, func(x *api.Image) { x.Tasks = nil })
	turned(t, whole(), 0, api.ErrTask, func(x *api.Image) { x.Tasks = x.Tasks[:0] })
}

// P10.1: a task's times, at their bounds: the Deadline's is the Period, the Cost's the Deadline.
func TestTimes(t *testing.T) {
	near := []int{-1, 0, 1, 2, 3, 4, 4095, 4096, 4097, math.MinInt, math.MaxInt}
	for _, period := range near {
		for _, deadline := range near {
			for _, cost := range near {
				x := plain()
				x.Tasks = append(x.Tasks, api.Task{Period: period, Deadline: deadline, Cost: cost})
				if 1 <= cost && cost <= deadline && deadline <= period && period <= 4096 {
					is(t, x, 0, api.OK)
				} else {
					is(t, x, 1, api.ErrTask)
				}
			}
		}
	}
}

// P10.1: how long a task holds resources: from 0 to its Cost, those that there are.
func TestLongest(t *testing.T) {
	for many := range 9 {
		for res := range 8 {
			for _, n := range append([]int{0, 1, 2, 3, 8, 10}, far...) {
				x := plain()
				x.Res = many
				x.Tasks[0].Longest[res] = n
				if n == 0 || res < many && n > 0 && n <= 2 {
					is(t, x, 0, api.OK)
				} else {
					is(t, x, 0, api.ErrTask)
				}
			}
		}
	}
}

// P10.1: the first task that may not be is told.
func TestFirstTask(t *testing.T) {
	for first := range 16 {
		x := greatest()
		for i := first; i < 16; i += 3 {
			x.Tasks[i].Cost = 4097
		}
		is(t, x, first, api.ErrTask)
		x.Modes, x.Edges = nil, nil // they come behind
		is(t, x, first, api.ErrTask)
	}
}

// P10.1: how many modes there are; that goes ahead of each.
func TestManyModes(t *testing.T) {
	for _, many := range []int{0, 1, 2, 7, 8, 9, 10, 16, 32, 33, 500} {
		x := plain()
		x.Modes = slices.Repeat(x.Modes, many)
		if many >= 1 && many <= 8 {
			is(t, x, 0, api.OK)
			continue
		}
		is(t, x, many, api.ErrMode)
		x.Edges = make([]api.Edge, 25)
		is(t, x, many, api.ErrMode)
		if many > 0 {
			x.Modes[0].Tasks = 8
			is(t, x, many, api.ErrMode)
		}
	}
}

// P10.1: a mode's tasks are the image's.
func TestModeTasks(t *testing.T) {
	for many := 1; many <= 16; many++ {
		for task := range 32 {
			x := plain()
			x.Tasks = slices.Repeat(x.Tasks, many)
			x.Modes = append(x.Modes, api.Mode{Tasks: 1 << task}, api.Mode{Tasks: 1 | 1<<task})
			if task < many {
				is(t, x, 0, api.OK)
			} else {
				is(t, x, 1, api.ErrMode)
			}
		}
	}
}

// P10.1: a mode's queues: how many, and each.
func TestQueues(t *testing.T) {
	for many := range 12 {
		x := plain()
		x.Modes = append(x.Modes, api.Mode{Queues: slices.Repeat([]api.Queue{{Cap: 1, Policy: api.DropOld}}, many)})
		if many <= 4 {
			is(t, x, 0, api.OK)
		} else {
			is(t, x, 1, api.ErrQueue)
		}
	}
	for place := range 4 {
		for _, n := range append([]int{0, 1, 2, 3, 4, 15, 16, 17}, far...) {
			x := greatest()
			x.Modes[5].Queues[place].Cap = n
			if n >= 1 && n <= 16 {
				is(t, x, 0, api.OK)
			} else {
				is(t, x, 5, api.ErrQueue)
			}
			x = greatest()
			x.Modes[5].Queues[place].Policy = api.Policy(n)
			if n >= 1 && n <= 3 {
				is(t, x, 0, api.OK)
			} else {
				is(t, x, 5, api.ErrQueue)
			}
		}
	}
}

// P10.1: mode by mode: what is wrong of an earlier one goes ahead; of the same one its tasks do.
func TestModesInOrder(t *testing.T) {
	badTasks := func(m int) func(*api.Image) { return func(x *api.Image) { x.Modes[m].Tasks |= 1 << 3 } }
	badQueue := func(m int) func(*api.Image) {
		return func(x *api.Image) { x.Modes[m].Queues = append(x.Modes[m].Queues, api.Queue{}) }
	}
	for first := range 3 {
		for second := range 3 {
			x := whole()
			badTasks(second)(&x)
			badQueue(first)(&x)
			if first < second {
				is(t, x, first, api.ErrQueue)
			} else {
				is(t, x, second, api.ErrMode)
			}
			x.Edges[0].Protocol = 0 // it comes behind
			x.Tasks[2].Deadline = 0 // and that ahead
			is(t, x, 2, api.ErrTask)
		}
	}
}

// P10.1: how many edges there are; that goes ahead of each.
func TestManyEdges(t *testing.T) {
	for _, many := range []int{25, 26, 32, 64, 1000} {
		x := greatest()
		x.Edges = make([]api.Edge, many)
		is(t, x, many, api.ErrEdge)
	}
	x := greatest()
	for many := range 25 {
		x.Edges = greatest().Edges[:many]
		is(t, x, 0, api.OK)
	}
	x.Edges = append(x.Edges, api.Edge{From: 7, To: 0, Protocol: api.Idle})
	is(t, x, 25, api.ErrEdge)
}

// P10.1: an edge's modes are there, and unlike.
func TestEdgeModes(t *testing.T) {
	near := append([]int{0, 1, 2, 3, 4, 7, 8}, far...)
	for _, from := range near {
		for _, to := range near {
			x := whole()
			x.Edges = []api.Edge{{From: from, To: to, Protocol: api.Idle}}
			if from != to && from >= 0 && from < 3 && to >= 0 && to < 3 {
				is(t, x, 0, api.OK)
			} else {
				is(t, x, 0, api.ErrEdge)
			}
		}
	}
}

// P10.1: an edge's protocol.
func TestProtocols(t *testing.T) {
	for _, n := range append([]int{0, 1, 2, 3, 4, 5, 15}, far...) {
		x := whole()
		x.Edges[2].Protocol = api.Protocol(n)
		if n >= 1 && n <= 3 {
			is(t, x, 0, api.OK)
		} else {
			is(t, x, 2, api.ErrEdge)
		}
	}
}

// P10.1: of two edges that go the same way the second one may not be; the way back is another one.
func TestSameWay(t *testing.T) {
	for first := range 24 {
		for second := range 24 {
			x := greatest()
			x.Edges[second].From, x.Edges[second].To = x.Edges[first].From, x.Edges[first].To
			if first == second {
				is(t, x, 0, api.OK)
			} else {
				is(t, x, max(first, second), api.ErrEdge)
			}
		}
	}
	for _, turn := range []func(*api.Edge){
		func(e *api.Edge) { e.Protocol = api.Longest },
		func(e *api.Edge) { e.Map[0] = 1 },
		func(e *api.Edge) { e.Offsets[2] = 1 },
	} { // whatever else they have
		x := whole()
		e := x.Edges[0]
		turn(&e)
		x.Edges = append(x.Edges, e)
		is(t, x, 3, api.ErrEdge)
	}
}

// P10.1: an edge's map: at places of queues of From numbers of queues of To, each but 0 once.
func TestMap(t *testing.T) {
	for from := range 5 {
		for to := range 5 {
			for code := range 6 * 6 * 6 * 6 {
				l := [4]int{code % 6, code / 6 % 6, code / 36 % 6, code / 216}
				x := plain()
				x.Modes = []api.Mode{{Queues: slices.Repeat([]api.Queue{{Cap: 1, Policy: 1}}, from)}, {Queues: slices.Repeat([]api.Queue{{Cap: 1, Policy: 1}}, to)}}
				x.Edges = []api.Edge{{From: 0, To: 1, Protocol: api.Idle, Map: l}}
				may := true
				for i, n := range l {
					may = may && n <= to && (i < from || n == 0) && (n == 0 || !slices.Contains(l[:i], n))
				}
				e := api.OK
				if !may {
					e = api.ErrEdge
				}
				if at, got := image.Check(x); at != 0 || got != e {
					t.Fatalf("%d queues become %d by %v: %d, %v", from, to, l, at, got)
				}
			}
		}
	}
	for place := range 4 {
		for _, n := range far {
			turned(t, greatest(), 9, api.ErrEdge, func(x *api.Image) { x.Edges[9].Map[place] = n })
		}
	}
}

// P10.1: an edge's offsets: Apart alone, of tasks that are new.
func TestOffsets(t *testing.T) {
	for protocol := api.Idle; protocol <= api.Apart; protocol++ {
		for task := range 16 {
			for _, n := range append([]int{0, 1, 2, 1<<14 - 1, 1 << 14, 1<<14 + 1}, far...) {
				x := greatest()
				x.Modes[0].Tasks, x.Modes[1].Tasks = 0x0f0f, 0x00ff // new: 4 to 7
				x.Edges = []api.Edge{{From: 0, To: 1, Protocol: protocol}}
				x.Edges[0].Offsets[task] = n
				if n == 0 || protocol == api.Apart && task >= 4 && task <= 7 && n > 0 && n <= 1<<14 {
					is(t, x, 0, api.OK)
				} else {
					is(t, x, 0, api.ErrEdge)
				}
			}
		}
	}
}

// P10.1: a task that there isn't has no offset either.
func TestOffsetOfNone(t *testing.T) {
	for task := 3; task < 16; task++ {
		turned(t, whole(), 0, api.ErrEdge, func(x *api.Image) { x.Edges[0].Offsets[task] = 1 })
	}
}

// P10.1: the first edge that may not be is told.
func TestFirstEdge(t *testing.T) {
	for first := range 24 {
		x := greatest()
		for i := first; i < 24; i += 5 {
			x.Edges[i].Protocol = 4
		}
		is(t, x, first, api.ErrEdge)
	}
}

// oracle: Check, told in another way: all that is wrong is written down, with its rank, and the least is taken.
func oracle(x api.Image) (int, api.Errno) {
	type wrong struct {
		rank, at int
		e        api.Errno
	}
	var l []wrong
	note := func(bad bool, rank, at int, e api.Errno) {
		if bad {
			l = append(l, wrong{rank, at, e})
		}
	}
	out := func(n, least, most int) bool { return n < least || n > most }
	note(out(x.Res, 0, 8), 0, 0, api.ErrRes)
	note(out(len(x.Tasks), 1, 16), 1, len(x.Tasks), api.ErrTask)
	for i, k := range x.Tasks {
		note(out(k.Period, 1, 4096) || out(k.Deadline, 1, k.Period) || out(k.Cost, 1, k.Deadline), 10+i, i, api.ErrTask)
		for r, n := range k.Longest {
			note(out(n, 0, k.Cost) || r >= x.Res && n != 0, 10+i, i, api.ErrTask)
		}
	}
	note(out(len(x.Modes), 1, 8), 100, len(x.Modes), api.ErrMode)
	for m, mode := range x.Modes {
		note(uint64(mode.Tasks)>>len(x.Tasks) != 0, 200+2*m, m, api.ErrMode)
		note(len(mode.Queues) > 4, 201+2*m, m, api.ErrQueue)
		for _, q := range mode.Queues {
			note(out(q.Cap, 1, 16) || out(int(q.Policy), 1, 3), 201+2*m, m, api.ErrQueue)
		}
	}
	note(len(x.Edges) > 24, 300, len(x.Edges), api.ErrEdge)
	for i, d := range x.Edges {
		note(out(int(d.Protocol), 1, 3), 400+i, i, api.ErrEdge)
		for _, o := range x.Edges[:i] {
			note(o.From == d.From && o.To == d.To, 400+i, i, api.ErrEdge)
		}
		if d.From == d.To || out(d.From, 0, len(x.Modes)-1) || out(d.To, 0, len(x.Modes)-1) {
			note(true, 400+i, i, api.ErrEdge)
			continue
		}
		a, b := x.Modes[d.From], x.Modes[d.To]
		seen := map[int]bool{}
		for p, n := range d.Map {
			note(out(n, 0, len(b.Queues)) || p >= len(a.Queues) && n != 0 || seen[n], 400+i, i, api.ErrEdge)
			seen[n] = n != 0
		}
		for k, o := range d.Offsets {
			fresh := b.Tasks>>k&1 == 1 && a.Tasks>>k&1 == 0
			note(out(o, 0, 1<<14) || o != 0 && !(d.Protocol == api.Apart && fresh), 400+i, i, api.ErrEdge)
		}
	}
	if len(l) == 0 {
		return 0, api.OK
	}
	first := slices.MinFunc(l, func(a, b wrong) int { return a.rank - b.rank })
	return first.at, first.e
}

// spoil turns something of an image, be it so that it still may be or not.
func spoil(r *rand.Rand, x *api.Image) {
	n := []int{-1, 0, 1, 2, 3, 4, 5, 8, 9, 16, 17, 4096, 4097, 1 << 14, 1<<14 + 1}[r.IntN(15)]
	switch r.IntN(14) {
	case 0:
		x.Res = n
	case 1:
		x.Tasks[r.IntN(len(x.Tasks))].Period = n
	case 2:
		x.Tasks[r.IntN(len(x.Tasks))].Deadline = n
	case 3:
		x.Tasks[r.IntN(len(x.Tasks))].Cost = n
	case 4:
		x.Tasks[r.IntN(len(x.Tasks))].Longest[r.IntN(8)] = n
	case 5:
		x.Modes[r.IntN(len(x.Modes))].Tasks ^= 1 << r.IntN(18)
	case 6:
		m := &x.Modes[r.IntN(len(x.Modes))]
		m.Queues = append(m.Queues, api.Queue{Cap: 1 + r.IntN(17), Policy: api.Policy(1 + r.IntN(3))})
	case 7:
		if m := &x.Modes[r.IntN(len(x.Modes))]; len(m.Queues) > 0 {
			m.Queues = m.Queues[1:]
		}
	case 8:
		x.Edges[r.IntN(len(x.Edges))].From = n
	case 9:
		x.Edges[r.IntN(len(x.Edges))].To = n
	case 10:
		x.Edges[r.IntN(len(x.Edges))].Protocol = api.Protocol(n)
	case 11:
		x.Edges[r.IntN(len(x.Edges))].Map[r.IntN(4)] = n
	case 12:
		x.Edges[r.IntN(len(x.Edges))].Offsets[r.IntN(16)] = n
	case 13:
		x.Edges = append(x.Edges, x.Edges[r.IntN(len(x.Edges))])
	}
}

// P10.1: whatever is turned of images, one thing or some.
func TestMixture(t *testing.T) {
	r := rand.New(rand.NewPCG(10, 1))
	told := map[api.Errno]int{}
	for n := range 60000 {
		x := whole()
		if n%3 == 0 {
			x = greatest()
		}
		for range 1 + r.IntN(4) {
			spoil(r, &x)
		}
		at, e := oracle(x)
		if n, got := image.Check(x); n != at || got != e {
			t.Fatalf("Check(%+v): %d, %v, not %d, %v", x, n, got, at, e)
		}
		told[e]++
	}
	for _, e := range []api.Errno{api.OK, api.ErrRes, api.ErrTask, api.ErrMode, api.ErrQueue, api.ErrEdge} {
		if told[e] < 100 {
			t.Errorf("%v: %d times alone", e, told[e])
		}
	}
}

// P10.2: what is above 0, rising; left anywhere, gone through again.
func TestUses(t *testing.T) {
	type use struct{ res, longest int }
	for code := range 256 {
		var task api.Task
		var want []use
		for res := range 8 {
			task.Longest[res] = []int{0, -1, math.MinInt}[res%3]
			if code>>res&1 == 1 {
				task.Longest[res] = []int{1, 7, math.MaxInt}[res%3]
				want = append(want, use{res, task.Longest[res]})
			}
		}
		l := image.Uses(task)
		task.Longest = [8]int{5, 5, 5, 5, 5, 5, 5, 5} // a task is a value
		for most := len(want) + 1; most >= 0; most-- {
			var got []use
			for res, longest := range l {
				if len(got) == most {
					break
				}
				got = append(got, use{res, longest})
			}
			if !slices.Equal(got, want[:min(most, len(want))]) {
				t.Errorf("%v, left behind %d, not %v", got, most, want)
			}
		}
	}
	if image.Uses(api.Task{}) == nil {
		t.Error("a nil iterator")
	}
}

// P10.2: the numbers of all tasks, up to 31.
func TestAll(t *testing.T) {
	for _, many := range []int{0, 1, 2, 15, 16, 17, 30, 31, 32, 33, 34, 63, 64, 65, 1000} {
		want := mask.Set(0)
		for task := range min(many, 32) {
			want |= 1 << task
		}
		if got := image.All(api.Image{Tasks: make([]api.Task, many)}); got != want {
			t.Errorf("%d tasks: %x", many, got)
		}
	}
	// What lies behind the length is not there.
	if got := image.All(api.Image{Tasks: make([]api.Task, 2, 9)}); got != 3 {
		t.Errorf("%x", got)
	}
}

// P10.2: a mode's tasks, as they are; of no mode none.
func TestTasks(t *testing.T) {
	x := api.Image{Modes: make([]api.Mode, 40, 50)}
	for m := range x.Modes {
		x.Modes[m].Tasks = uint32(m) * 0x01020304
	}
	for m := range x.Modes {
		if got := image.Tasks(x, m); got != mask.Set(x.Modes[m].Tasks) {
			t.Errorf("%d: %x", m, got)
		}
	}
	x.Modes[:50][45].Tasks = 7
	for _, m := range append([]int{40, 41, 45, 50}, far...) {
		if got := image.Tasks(x, m); got != 0 {
			t.Errorf("%d: %x", m, got)
		}
	}
	if image.Tasks(api.Image{}, 0) != 0 {
		t.Error("no modes")
	}
}

// P10.2: the first edge of those that go a way; an edge goes it also where there are no such modes.
func TestEdge(t *testing.T) {
	var x api.Image
	for _, w := range [][2]int{{0, 1}, {1, 0}, {0, 1}, {2, 2}, {-1, math.MaxInt}, {1, 2}, {1, 0}, {-1, math.MaxInt}} {
		x.Edges = append(x.Edges, api.Edge{From: w[0], To: w[1]})
	}
	for _, c := range []struct {
		from, to, at int
		ok           bool
	}{
		{0, 1, 0, true}, {1, 0, 1, true}, {2, 2, 3, true}, {-1, math.MaxInt, 4, true}, {1, 2, 5, true},
		{2, 1, 0, false}, {0, 0, 0, false}, {math.MaxInt, -1, 0, false}, {0, 2, 0, false}, {math.MinInt, 0, 0, false}, {3, 9, 0, false},
	} {
		for range 2 {
			if at, ok := image.Edge(x, c.from, c.to); at != c.at || ok != c.ok {
				t.Errorf("from %d to %d: %d %v", c.from, c.to, at, ok)
			}
		}
	}
	for _, y := range []api.Image{{}, {Edges: x.Edges[:0]}} {
		if at, ok := image.Edge(y, 0, 1); at != 0 || ok {
			t.Error(at, ok)
		}
	}
	// What lies behind the length isn't read.
	if at, ok := image.Edge(api.Image{Edges: x.Edges[1:2]}, 0, 1); at != 0 || ok {
		t.Error(at, ok)
	}
}

// turns are all that may be turned of whole(), one thing each.
func turns() []func(*api.Image) {
	l := []func(*api.Image){
		func(x *api.Image) { x.Res++ },
		func(x *api.Image) { x.Tasks = x.Tasks[:2] },
		func(x *api.Image) { x.Tasks = append(x.Tasks, api.Task{}) },
		func(x *api.Image) { x.Tasks[0], x.Tasks[1] = x.Tasks[1], x.Tasks[0] },
		func(x *api.Image) { x.Modes = x.Modes[:2] },
		func(x *api.Image) { x.Modes = append(x.Modes, api.Mode{}) },
		func(x *api.Image) { x.Modes = nil },
		func(x *api.Image) { x.Edges = x.Edges[1:] },
		func(x *api.Image) { x.Edges = append(x.Edges, api.Edge{}) },
		func(x *api.Image) { x.Edges[1], x.Edges[2] = x.Edges[2], x.Edges[1] },
	}
	for i := range 3 {
		l = append(l,
			func(x *api.Image) { x.Tasks[i].Period++ },
			func(x *api.Image) { x.Tasks[i].Deadline++ },
			func(x *api.Image) { x.Tasks[i].Cost++ },
			func(x *api.Image) { x.Modes[i].Tasks ^= 1 << 31 },
			func(x *api.Image) { x.Modes[i].Queues = append(x.Modes[i].Queues, api.Queue{}) },
			func(x *api.Image) { x.Edges[i].From-- },
			func(x *api.Image) { x.Edges[i].To-- },
			func(x *api.Image) { x.Edges[i].Protocol-- },
		)
		for n := range 8 {
			l = append(l, func(x *api.Image) { x.Tasks[i].Longest[n]-- })
		}
		for n := range 16 {
			l = append(l, func(x *api.Image) { x.Edges[i].Offsets[n]++ })
		}
		for n := range 4 {
			l = append(l, func(x *api.Image) { x.Edges[i].Map[n]++ })
		}
		for n := range []int{2, 3, 0}[i] {
			l = append(l,
				func(x *api.Image) { x.Modes[i].Queues[n].Cap++ },
				func(x *api.Image) { x.Modes[i].Queues[n].Policy++ },
				func(x *api.Image) { x.Modes[i].Queues = slices.Delete(x.Modes[i].Queues, n, n+1) },
			)
		}
	}
	return l
}

// P10.3: not the same, whatever is turned; turned alike the same again.
func TestSame(t *testing.T) {
	for i, turn := range turns() {
		a, b := whole(), whole()
		if !image.Same(a, b) {
			t.Fatal("not the same")
		}
		turn(&a)
		if image.Same(a, b) || image.Same(b, a) || !image.Same(a, a) {
			t.Errorf("turn %d: the same", i)
		}
		turn(&b)
		if !image.Same(a, b) {
			t.Errorf("turn %d of both: not the same", i)
		}
	}
}

// P10.3: two that are turned each in another way aren't the same.
func TestSameOfTwo(t *testing.T) {
	for i, one := range turns() {
		for n, other := range turns() {
			a, b := whole(), whole()
			one(&a)
			other(&b)
			if image.Same(a, b) != (i == n) {
				t.Errorf("turns %d and %d: %v", i, n, i != n)
			}
		}
	}
}

// P10.3, rule 1: a nil list is an empty one; raw images are held against one another, too.
func TestSameRaw(t *testing.T) {
	empty := api.Image{Tasks: []api.Task{}, Modes: []api.Mode{}, Edges: make([]api.Edge, 0, 3)}
	if !image.Same(api.Image{}, empty) || !image.Same(empty, api.Image{}) {
		t.Error("no lists")
	}
	a, b := api.Image{Modes: []api.Mode{{}}}, api.Image{Modes: []api.Mode{{Queues: []api.Queue{}}}}
	if !image.Same(a, b) || !image.Same(b, a) || image.Same(a, empty) || image.Same(empty, a) {
		t.Error("no queues")
	}
	long := api.Image{Res: math.MinInt, Tasks: make([]api.Task, 1000), Modes: make([]api.Mode, 1000), Edges: make([]api.Edge, 1000)}
	other := image.Copy(long)
	if !image.Same(long, other) {
		t.Error("long lists")
	}
	other.Modes[999].Queues = []api.Queue{{}}
	if image.Same(long, other) || image.Same(other, long) {
		t.Error("the last mode")
	}
	// The queues of a mode that is the last one, or isn't: what isn't the same stays so, whatever comes behind.
	for i := range 3 {
		a, b := whole(), whole()
		for m := range 3 {
			a.Modes[m].Queues, b.Modes[m].Queues = []api.Queue{{Cap: 1}, {Cap: 2}}, []api.Queue{{Cap: 1}, {Cap: 2}}
		}
		b.Modes[i].Queues[1].Cap = 3
		if image.Same(a, b) || image.Same(b, a) {
			t.Errorf("the queues of mode %d", i)
		}
	}
}

// P10.3: what lies behind the lengths counts for nothing.
func TestSameBehind(t *testing.T) {
	a, b := whole(), whole()
	a.Tasks, a.Modes, a.Edges, a.Modes[0].Queues = a.Tasks[:1], a.Modes[:1], a.Edges[:1], a.Modes[0].Queues[:1]
	b.Tasks, b.Modes, b.Edges, b.Modes[0].Queues = b.Tasks[:1:1], b.Modes[:1:1], b.Edges[:1:1], b.Modes[0].Queues[:1:1]
	if !image.Same(a, b) || !image.Same(b, a) {
		t.Error("not the same")
	}
}

// P10.3: a copy is the same, and each stays as it is, whatever becomes of the other one.
func TestCopy(t *testing.T) {
	for i, turn := range turns() {
		x := whole()
		y := image.Copy(x)
		if !reflect.DeepEqual(x, y) || !image.Same(x, y) {
			t.Fatalf("%+v, not %+v", y, x)
		}
		turn(&y)
		if !reflect.DeepEqual(x, whole()) {
			t.Errorf("turn %d of the copy turns what was copied", i)
		}
		y = image.Copy(x)
		turn(&x)
		if !reflect.DeepEqual(y, whole()) {
			t.Errorf("turn %d of what was copied turns the copy", i)
		}
	}
	for _, x := range []api.Image{{}, {Tasks: []api.Task{}, Modes: []api.Mode{{Queues: []api.Queue{}}}}, greatest(), {Res: -7, Tasks: make([]api.Task, 100), Modes: make([]api.Mode, 100), Edges: make([]api.Edge, 100)}} {
		if !image.Same(image.Copy(x), x) {
			t.Errorf("%+v", x)
		}
	}
}

// Rule 5: no two lists of a copy share any, though those that were copied did; what lay behind them isn't handed out.
func TestCopyShares(t *testing.T) {
	room := []api.Queue{{Cap: 1}, {Cap: 2}, {Cap: 3}, {Cap: 4}}
	x := api.Image{Tasks: whole().Tasks[:1], Modes: []api.Mode{{Queues: room[:2]}, {Queues: room[:2]}, {Queues: room[1:2]}}, Edges: whole().Edges[:1]}
	y := image.Copy(x)
	y.Modes[0].Queues[1].Cap = 9
	if y.Modes[1].Queues[1].Cap != 2 || y.Modes[2].Queues[0].Cap != 2 || room[1].Cap != 2 {
		t.Error("lists share something")
	}
	for _, m := range y.Modes {
		if l := m.Queues[:cap(m.Queues)]; slices.ContainsFunc(l[len(m.Queues):], func(q api.Queue) bool { return q != api.Queue{} }) {
			t.Error("handed out behind the length:", l)
		}
		_ = append(m.Queues, api.Queue{Cap: 8})
	}
	if l := y.Tasks[:cap(y.Tasks)]; slices.ContainsFunc(l[1:], func(k api.Task) bool { return k != api.Task{} }) {
		t.Error("handed out behind the length:", l)
	}
	if l := y.Edges[:cap(y.Edges)]; slices.ContainsFunc(l[1:], func(d api.Edge) bool { return d != api.Edge{} }) {
		t.Error("handed out behind the length:", l)
	}
	if room[2].Cap != 3 || room[3].Cap != 4 {
		t.Error("written behind the length")
	}
}
