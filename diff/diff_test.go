package diff_test

import (
	"math"
	"math/rand/v2"
	"reflect"
	"slices"
	"strconv"
	"strings"
	"testing"

	"remontoir/api"
	"remontoir/diff"
	"remontoir/image"
	"remontoir/mask"
)

// whole: an image that has some of all that there may be.
func whole() api.Image {
	x := api.Image{
		Res:   3,
		Tasks: []api.Task{{Period: 10, Deadline: 9, Cost: 4}, {Period: 20, Deadline: 18, Cost: 5}, {Period: 40, Deadline: 40, Cost: 6}},
		Modes: []api.Mode{
			{Tasks: 3, Queues: []api.Queue{{Cap: 1, Policy: api.Refuse}, {Cap: 16, Policy: api.DropOld}}},
			{Tasks: 6, Queues: []api.Queue{{Cap: 2, Policy: api.DropNew}, {Cap: 3, Policy: api.DropOld}}},
			{Tasks: 4},
		},
		Edges: []api.Edge{{From: 0, To: 1, Protocol: api.Apart, Map: [4]int{2, 1}}, {From: 1, To: 0, Protocol: api.Longest}, {From: 2, To: 0, Protocol: api.Idle}},
	}
	x.Tasks[0].Longest[2], x.Tasks[1].Longest[2] = 1, 5
	x.Edges[0].Offsets[2] = 7
	return x
}

// lines: the lines of what Of answers.
func lines(l []diff.Turn) string {
	var all []string
	for _, t := range l {
		all = append(all, diff.Line(t))
	}
	return strings.Join(all, "; ")
}

// exchanged: turns, Old and New exchanged.
func exchanged(l []diff.Turn) []diff.Turn {
	l = slices.Clone(l)
	for i := range l {
		l[i].Old, l[i].New = l[i].New, l[i].Old
	}
	return l
}

// is holds what Of and Tasks answer of two images, each time the same, and of them exchanged; and that both stay.
func is(t *testing.T, a, b api.Image, tasks mask.Set, want ...diff.Turn) {
	t.Helper()
	first, second := image.Copy(a), image.Copy(b)
	for range 2 {
		if l := diff.Of(a, b); !slices.Equal(l, want) {
			t.Fatalf("Of(%+v, %+v): %+v, not %+v", a, b, l, want)
		}
		if l := diff.Of(b, a); !slices.Equal(l, exchanged(want)) {
			t.Fatalf("Of(%+v, %+v): %+v, not %+v", b, a, l, exchanged(want))
		}
		if s, o := diff.Tasks(a, b), diff.Tasks(b, a); s != tasks || o != tasks {
			t.Fatalf("Tasks(%+v, %+v): %x, %x, not %x", a, b, s, o, tasks)
		}
	}
	if image.Same(a, b) != (len(want) == 0) {
		t.Fatalf("%+v, %+v: the same, and yet %+v", a, b, want)
	}
	if !image.Same(first, a) || !image.Same(second, b) {
		t.Fatalf("changed: %+v, %+v", a, b)
	}
}

// turned holds what is told of the whole image and one that is turned.
func turned(t *testing.T, lost mask.Set, want string, turn func(*api.Image)) {
	t.Helper()
	a, b := whole(), whole()
	turn(&b)
	l := diff.Of(a, b)
	is(t, a, b, 7&^lost, l...)
	if got := lines(l); got != want {
		t.Errorf("%q, not %q", got, want)
	}
}

// The chapter's example.
func TestExample(t *testing.T) {
	turned(t, 1, "task 0 other", func(x *api.Image) { x.Tasks[0] = api.Task{Period: 11, Deadline: 9, Cost: 4} })
}

// P42.1: each number of each part, one by one.
func TestEach(t *testing.T) {
	turned(t, 0, "res 0 other", func(x *api.Image) { x.Res = 4 })
	turned(t, 4, "task 2 other", func(x *api.Image) { x.Tasks[2].Period++ })
	turned(t, 4, "task 2 other", func(x *api.Image) { x.Tasks[2].Deadline-- })
	turned(t, 2, "task 1 other", func(x *api.Image) { x.Tasks[1].Cost++ })
	for res := range 8 {
		turned(t, 1, "task 0 other", func(x *api.Image) { x.Tasks[0].Longest[res]++ })
		turned(t, 3, "task 0 other; task 1 other", func(x *api.Image) { x.Tasks[0].Longest[res], x.Tasks[1].Longest[7-res] = 9, 9 })
	}
	for bit := range 32 {
		turned(t, 0, "mode 1 other", func(x *api.Image) { x.Modes[1].Tasks ^= 1 << bit })
	}
	turned(t, 0, "queues 1 other", func(x *api.Image) { x.Modes[1].Queues[0].Cap++ })
	turned(t, 0, "queues 1 other", func(x *api.Image) { x.Modes[1].Queues[1].Policy++ })
	turned(t, 0, "queues 0 other", func(x *api.Image) { x.Modes[0].Queues = x.Modes[0].Queues[:1] })
	turned(t, 0, "queues 0 other", func(x *api.Image) { x.Modes[0].Queues = nil })
	turned(t, 0, "queues 0 other", func(x *api.Image) { slices.Reverse(x.Modes[0].Queues) })
	turned(t, 0, "queues 2 other", func(x *api.Image) { x.Modes[2].Queues = make([]api.Queue, 1) })
	turned(t, 0, "edge 1 other", func(x *api.Image) { x.Edges[1].From = 2 })
	turned(t, 0, "edge 1 other", func(x *api.Image) { x.Edges[1].To = 2 })
	turned(t, 0, "edge 2 other", func(x *api.Image) { x.Edges[2].Protocol = api.Longest })
	for i := range 16 {
		turned(t, 0, "edge 0 other", func(x *api.Image) { x.Edges[0].Offsets[i] += 8 })
	}
	for i := range 4 {
		turned(t, 0, "edge 0 other", func(x *api.Image) { x.Edges[0].Map[i] += 8 })
	}
}

// P42.1: what one image alone has, place by place, and no queues of such a mode.
func TestAlone(t *testing.T) {
	turned(t, 4, "task 2 gone", func(x *api.Image) { x.Tasks = x.Tasks[:2] })
	turned(t, 7, "task 0 gone; task 1 gone; task 2 gone", func(x *api.Image) { x.Tasks = nil })
	turned(t, 7, "task 0 other; task 1 other; task 2 gone", func(x *api.Image) { x.Tasks = x.Tasks[1:] })
	turned(t, 0, "task 3 new; task 4 new", func(x *api.Image) { x.Tasks = append(x.Tasks, x.Tasks[:2]...) })
	turned(t, 0, "task 3 new", func(x *api.Image) { x.Tasks = append(x.Tasks, api.Task{}) })
	turned(t, 0, "mode 2 gone", func(x *api.Image) { x.Modes = x.Modes[:2] })
	turned(t, 0, "mode 1 gone; mode 2 gone", func(x *api.Image) { x.Modes = x.Modes[:1] })
	turned(t, 0, "mode 3 new", func(x *api.Image) { x.Modes = append(x.Modes, api.Mode{}) })
	turned(t, 0, "mode 3 new; mode 4 new", func(x *api.Image) { x.Modes = append(x.Modes, x.Modes[:2]...) })
	turned(t, 0, "mode 0 other; queues 0 other; mode 1 other; queues 1 other; mode 2 gone", func(x *api.Image) { x.Modes = x.Modes[1:] })
	turned(t, 0, "edge 2 gone", func(x *api.Image) { x.Edges = x.Edges[:2] })
	turned(t, 0, "edge 0 gone; edge 1 gone; edge 2 gone", func(x *api.Image) { x.Edges = nil })
	turned(t, 0, "edge 3 new", func(x *api.Image) { x.Edges = append(x.Edges, api.Edge{}) })
	turned(t, 0, "edge 0 other; edge 1 other; edge 2 gone", func(x *api.Image) { x.Edges = x.Edges[1:] })
}

// P42.1: all at once, in their order.
func TestOrder(t *testing.T) {
	turned(t, 2, "res 0 other; task 1 other; task 3 new; mode 0 other; queues 0 other; queues 1 other; mode 2 gone; edge 0 other; edge 3 new", func(x *api.Image) {
		x.Edges = append(x.Edges, api.Edge{})
		x.Edges[0].To = 2
		x.Modes = x.Modes[:2]
		x.Modes[1].Queues, x.Modes[0].Queues = nil, nil
		x.Modes[0].Tasks = 0
		x.Tasks = append(x.Tasks, api.Task{})
		x.Tasks[1].Cost = 0
		x.Res = 0
	})
	is(t, api.Image{}, whole(), 0,
		diff.Turn{Kind: diff.Res, Old: true, New: true},
		diff.Turn{Kind: diff.Task, New: true}, diff.Turn{Kind: diff.Task, At: 1, New: true}, diff.Turn{Kind: diff.Task, At: 2, New: true},
		diff.Turn{Kind: diff.Mode, New: true}, diff.Turn{Kind: diff.Mode, At: 1, New: true}, diff.Turn{Kind: diff.Mode, At: 2, New: true},
		diff.Turn{Kind: diff.Edge, New: true}, diff.Turn{Kind: diff.Edge, At: 1, New: true}, diff.Turn{Kind: diff.Edge, At: 2, New: true})
}

// P42.1, P42.3: of the same images nothing is told; an empty list is a nil one.
func TestSame(t *testing.T) {
	is(t, whole(), whole(), 7)
	is(t, api.Image{}, api.Image{}, 0)
	empty := api.Image{Tasks: []api.Task{}, Modes: []api.Mode{}, Edges: []api.Edge{}}
	is(t, api.Image{}, empty, 0)
	a, b := whole(), whole()
	b.Modes[2].Queues = []api.Queue{}
	is(t, a, b, 7)
	// What lies behind a list's length isn't read.
	a.Tasks, b.Tasks = a.Tasks[:1], b.Tasks[:1]
	a.Modes[0].Queues, b.Modes[0].Queues = a.Modes[0].Queues[:1], slices.Clone(b.Modes[0].Queues[:1])
	a.Modes, b.Modes = a.Modes[:2], append(b.Modes[:2], api.Mode{Tasks: 9})[:2]
	a.Edges, b.Edges = a.Edges[:0], b.Edges[:0:0]
	is(t, a, b, 1)
}

// P42.2: up to the place 31, however many tasks there are.
func TestTasksMany(t *testing.T) {
	for _, many := range []int{0, 1, 15, 16, 17, 31, 32, 33, 40, 64, 1000} {
		a := api.Image{Tasks: make([]api.Task, many)}
		want := mask.Set(1<<32 - 1).Below(many)
		is(t, a, a, want)
		for _, at := range []int{0, 15, 31, 32, 63, 999} {
			if at < many {
				b := image.Copy(a)
				b.Tasks[at].Cost = 1
				is(t, a, b, want.Without(at), diff.Turn{Kind: diff.Task, At: at, Old: true, New: true})
			}
		}
		if many > 0 {
			b := api.Image{Tasks: a.Tasks[:many-1]}
			is(t, a, b, want.Below(many-1), diff.Turn{Kind: diff.Task, At: many - 1, Old: true})
		}
	}
}

// raw: an image of any numbers, few of them, and any lists.
func raw(r *rand.Rand) api.Image {
	number := func() int { return []int{0, 0, 0, 1, 1 << 32, math.MinInt, math.MaxInt}[r.IntN(7)] }
	x := api.Image{Res: number()}
	for range r.IntN(4) {
		x.Tasks = append(x.Tasks, api.Task{Period: number() & 1, Longest: [8]int{7: number()}})
	}
	for range r.IntN(4) {
		m := api.Mode{Tasks: uint32(number()) & 1}
		for range r.IntN(3) {
			m.Queues = append(m.Queues, api.Queue{Cap: number() & 1, Policy: api.Policy(number() & 1)})
		}
		x.Modes = append(x.Modes, m)
	}
	for range r.IntN(4) {
		x.Edges = append(x.Edges, api.Edge{Protocol: api.Protocol(number()), Map: [4]int{3: number() & 1}})
	}
	return x
}

// kept: of two lists' rows at a place: whether the first, and the second image has one; and whether they are unlike.
func kept[Row any](a, b []Row, at int) (old, now, unlike bool) {
	old, now = at < len(a), at < len(b)
	return old, now, old != now || old && !reflect.DeepEqual(a[at], b[at])
}

// told: the turns of two images, told in another way.
func told(a, b api.Image) []diff.Turn {
	var l []diff.Turn
	if a.Res != b.Res {
		l = append(l, diff.Turn{Kind: diff.Res, Old: true, New: true})
	}
	for at := range 5 {
		if old, now, unlike := kept(a.Tasks, b.Tasks, at); unlike {
			l = append(l, diff.Turn{Kind: diff.Task, At: at, Old: old, New: now})
		}
	}
	for at := range 5 {
		old, now, unlike := kept(a.Modes, b.Modes, at)
		if unlike && (!old || !now || a.Modes[at].Tasks != b.Modes[at].Tasks) {
			l = append(l, diff.Turn{Kind: diff.Mode, At: at, Old: old, New: now})
		}
		if unlike && old && now && !reflect.DeepEqual(a.Modes[at].Queues, b.Modes[at].Queues) {
			l = append(l, diff.Turn{Kind: diff.Queue, At: at, Old: true, New: true})
		}
	}
	for at := range 5 {
		if old, now, unlike := kept(a.Edges, b.Edges, at); unlike {
			l = append(l, diff.Turn{Kind: diff.Edge, At: at, Old: old, New: now})
		}
	}
	return l
}

// P42.1 to P42.3: any two images, whatever they are.
func TestMixture(t *testing.T) {
	r := rand.New(rand.NewPCG(42, 1))
	same := 0
	for range 20000 {
		a, b := raw(r), raw(r)
		if r.IntN(3) == 0 {
			b = image.Copy(a)
			b.Res = raw(r).Res
		}
		var tasks mask.Set
		for at := range a.Tasks {
			if _, now, unlike := kept(a.Tasks, b.Tasks, at); now && !unlike {
				tasks = tasks.With(at)
			}
		}
		l := told(a, b)
		is(t, a, b, tasks, l...)
		if len(l) == 0 {
			same++
		}
	}
	if same < 100 {
		t.Error(same)
	}
}

// P42.2: each kind's word, the place, and what became of it.
func TestLine(t *testing.T) {
	words := map[diff.Kind]string{1: "res", 2: "task", 3: "mode", 4: "queues", 5: "edge"}
	if diff.Res != 1 || diff.Task != 2 || diff.Mode != 3 || diff.Queue != 4 || diff.Edge != 5 {
		t.Error(diff.Res, diff.Task, diff.Mode, diff.Queue, diff.Edge)
	}
	for _, kind := range []diff.Kind{0, 1, 2, 3, 4, 5, 6, 7, -1, -5, 256, 1 << 32, 1<<32 + 1, math.MinInt, math.MaxInt} {
		for _, at := range []int{0, 1, 9, 10, 31, 1000, 1<<31 - 2, 1<<31 - 1, 1 << 31, 1 << 32, math.MaxInt, -1, -2, math.MinInt32, math.MinInt} {
			for i := range 4 {
				turn := diff.Turn{Kind: kind, At: at, Old: i&1 == 1, New: i&2 == 2}
				want := ""
				if word := words[kind]; word != "" && at >= 0 && i > 0 {
					want = word + " " + strconv.Itoa(min(at, 1<<31-1)) + " " + []string{1: "gone", 2: "new", 3: "other"}[i]
				}
				for range 2 {
					if got := diff.Line(turn); got != want {
						t.Errorf("Line(%+v): %q, not %q", turn, got, want)
					}
				}
			}
		}
	}
	if diff.Line(diff.Turn{}) != "" {
		t.Error("of no turn")
	}
}

// Rule 5: what is answered is new memory.
func TestMemory(t *testing.T) {
	a, b := whole(), api.Image{}
	l, m := diff.Of(a, b), diff.Of(a, b)
	clear(l)
	if !slices.Equal(m, told(a, b)) {
		t.Error("two answers share something")
	}
}
