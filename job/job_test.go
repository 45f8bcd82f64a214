package job_test

import (
	"iter"
	"math"
	"math/rand/v2"
	"reflect"
	"slices"
	"testing"

	"remontoir/api"
	"remontoir/job"
)

// far are numbers that are out of all bounds.
var far = []int{-1, -2, -8, 1 << 31, 1 << 32, 1<<32 + 1, -1 << 32, math.MinInt32, math.MinInt, math.MinInt + 1, math.MaxInt - 1, math.MaxInt}

// task: one of a Cost, that may hold each resource so long.
func task(cost int, longest ...int) api.Task {
	t := api.Task{Period: 4096, Deadline: 4000, Cost: cost}
	copy(t.Longest[:], longest)
	return t
}

// some: at most so many of what is gone through.
func some(all iter.Seq[api.Section], most int) []api.Section {
	var l []api.Section
	for s := range all {
		if len(l) == most {
			break
		}
		l = append(l, s)
	}
	return l
}

// isSections holds what Sections goes through, left anywhere, gone through again, and that the list stays.
func isSections(t *testing.T, k api.Task, cost int, l []api.Section, want ...api.Section) {
	t.Helper()
	given := slices.Clone(l)
	all := job.Sections(k, cost, l)
	for most := len(want) + 1; most >= 0; most-- {
		if got := some(all, most); !slices.Equal(got, want[:min(most, len(want))]) {
			t.Errorf("Sections(%v, %d, %v), left behind %d: %v, not %v", k.Longest, cost, l, most, got, want)
		}
	}
	if !slices.Equal(given, l) {
		t.Errorf("%v is changed to %v", given, l)
	}
}

// sec is a section: Res, From, To.
type sec = [3]int

// secs: a list of sections.
func secs(some ...sec) []api.Section {
	var l []api.Section
	for _, s := range some {
		l = append(l, api.Section{Res: s[0], From: s[1], To: s[2]})
	}
	return l
}

// one: a list of one section.
func one(res, from, to int) []api.Section {
	return secs(sec{res, from, to})
}

// P25.1: only resources that there are, and that the task may hold.
func TestRes(t *testing.T) {
	for held := range 8 {
		k := task(9)
		k.Longest[held] = 3
		for res := range 8 {
			if res == held {
				isSections(t, k, 9, one(res, 0, 2), one(res, 0, 2)...)
			} else {
				isSections(t, k, 9, one(res, 0, 2))
			}
		}
		for _, res := range append([]int{8, 9, 16, 32}, far...) {
			isSections(t, k, 9, one(res, 0, 2))
		}
	}
}

// P25.1: one section, at all its bounds, each tick told by itself.
func TestOneSection(t *testing.T) {
	for cost := -1; cost < 7; cost++ {
		for longest := range 7 {
			for from := -2; from < 8; from++ {
				for to := -2; to < 9; to++ {
					k := task(6, 0, longest)
					if longest == 0 || from < 0 || from >= cost || to <= from {
						isSections(t, k, cost, one(1, from, to))
						continue
					}
					end := from
					for end < to && end < cost && end < from+longest {
						end++
					}
					isSections(t, k, cost, one(1, from, to), one(1, from, end)...)
				}
			}
		}
	}
}

// P25.1: numbers of any size.
func TestFar(t *testing.T) {
	k := task(9, math.MaxInt, 1, 4096)
	isSections(t, k, math.MaxInt, one(0, 0, math.MaxInt), one(0, 0, math.MaxInt)...)
	isSections(t, k, math.MaxInt, one(0, 5, math.MaxInt), one(0, 5, math.MaxInt)...)
	isSections(t, k, math.MaxInt, one(0, math.MaxInt-1, math.MaxInt), one(0, math.MaxInt-1, math.MaxInt)...)
	isSections(t, k, math.MaxInt, one(1, math.MaxInt-1, math.MaxInt), one(1, math.MaxInt-1, math.MaxInt)...)
	isSections(t, k, math.MaxInt, one(2, math.MaxInt-9, math.MaxInt), one(2, math.MaxInt-9, math.MaxInt)...)
	isSections(t, k, math.MaxInt, one(0, math.MaxInt, math.MaxInt))
	isSections(t, k, 9, one(0, 8, math.MaxInt), one(0, 8, 9)...)
	isSections(t, k, 9, one(1, 7, math.MaxInt), one(1, 7, 8)...)
	isSections(t, k, 9, one(0, math.MinInt, math.MaxInt))
	isSections(t, k, 9, one(0, -1, 5))
	isSections(t, k, 9, one(0, math.MaxInt, math.MinInt))
	isSections(t, k, 9, one(0, 3, math.MinInt))
	for _, cost := range []int{0, -1, math.MinInt} {
		isSections(t, k, cost, one(0, 0, 5))
		isSections(t, k, cost, one(0, math.MinInt, math.MaxInt))
	}
}

// P25.1: one behind the other: held against the last one that fits, as it was cut.
func TestBehind(t *testing.T) {
	k := task(20, 3, 5, 0, 20)
	// The first one ends at 4, as it is cut: so one from 4 on fits, none from 3 on does.
	isSections(t, k, 20, secs(sec{0, 1, 9}, sec{1, 3, 6}, sec{1, 4, 6}), secs(sec{0, 1, 4}, sec{1, 4, 6})...)
	isSections(t, k, 20, secs(sec{0, 1, 9}, sec{1, 5, 6}), secs(sec{0, 1, 4}, sec{1, 5, 6})...)
	// What doesn't fit counts for nothing of those behind it, whyever it doesn't.
	isSections(t, k, 20, secs(sec{2, 0, 9}, sec{9, 0, 15}, sec{0, -1, 9}, sec{0, 9, 9}, sec{0, 20, 25}, sec{1, 0, 2}), api.Section{Res: 1, From: 0, To: 2})
	isSections(t, k, 20, secs(sec{0, 8, 9}, sec{1, 2, 4}, sec{1, 9, 10}, sec{0, 8, 15}, sec{0, 10, 11}), secs(sec{0, 8, 9}, sec{1, 9, 10}, sec{0, 10, 11})...)
	// The same resource again, at once.
	isSections(t, k, 20, secs(sec{0, 0, 9}, sec{0, 3, 9}, sec{0, 6, 9}), secs(sec{0, 0, 3}, sec{0, 3, 6}, sec{0, 6, 9})...)
	// Cut to the Cost: nothing fits behind.
	isSections(t, k, 7, secs(sec{3, 2, 30}, sec{3, 7, 8}, sec{3, 6, 7}), api.Section{Res: 3, From: 2, To: 7})
}

// P25.1: at most eight, and none that doesn't fit counts.
func TestMany(t *testing.T) {
	for many := range 20 {
		var l, want []api.Section
		for i := range many {
			l = append(l, api.Section{Res: 5, From: i, To: i + 1}, api.Section{Res: 4, From: i + 1, To: i + 2}, api.Section{Res: 5, From: i, To: i + 1})
			if i < 8 {
				want = append(want, api.Section{Res: 5, From: i, To: i + 1})
			}
		}
		isSections(t, task(30, 0, 0, 0, 0, 0, 1), 30, l, want...)
	}
	isSections(t, task(3, 3), 3, nil)
	isSections(t, task(3, 3), 3, []api.Section{})
}

// fitting: the sections, told tick by tick: who holds each tick of work, and which tick is the first one that is free for all that come behind.
func fitting(k api.Task, cost int, l []api.Section) []api.Section {
	var fit []api.Section
	free := 0
	for _, s := range l {
		may := map[int]bool{}
		for res, n := range k.Longest {
			may[res] = n > 0
		}
		if len(fit) == 8 || !may[s.Res] || s.From < free || s.From >= cost || s.From >= s.To {
			continue
		}
		held := 0
		for tick := s.From; tick < cost && tick < s.To && held < k.Longest[s.Res]; tick++ {
			held++
		}
		free = s.From + held
		fit = append(fit, api.Section{Res: s.Res, From: s.From, To: free})
	}
	return fit
}

// random: a task, how much work is asked for, and sections, some of which fit.
func random(r *rand.Rand) (api.Task, int, []api.Section) {
	k := task(1 + r.IntN(40))
	k.Deadline = k.Cost + r.IntN(50)
	for res := range k.Longest {
		if r.IntN(3) > 0 {
			k.Longest[res] = r.IntN(k.Cost + 1)
		}
	}
	l := make([]api.Section, r.IntN(16))
	from := 0
	for i := range l {
		from += r.IntN(5) - 1
		l[i] = api.Section{Res: r.IntN(10) - 1, From: from, To: from + r.IntN(8) - 1}
		if r.IntN(20) == 0 {
			l[i].To = far[r.IntN(len(far))]
		}
		from = max(from, min(l[i].To-1, 50))
	}
	return k, r.IntN(50) - 3, l
}

// P25.1, P25.2: whatever is asked for.
func TestMixture(t *testing.T) {
	r := rand.New(rand.NewPCG(25, 1))
	fits := 0
	for range 20000 {
		k, cost, l := random(r)
		isSections(t, k, cost, l, fitting(k, cost, l)...)
		now := r.IntN(1 << 30)
		taken := cost
		if taken > k.Cost {
			taken = k.Cost
		}
		if taken < 1 {
			taken = 1
		}
		want := job.Job{Task: 3, Release: now, Deadline: now + k.Deadline, Cost: taken, Secs: fitting(k, taken, l)}
		if got := job.New(3, k, now, cost, l); !reflect.DeepEqual(got, want) {
			t.Fatalf("New(3, %+v, %d, %d, %v): %+v, not %+v", k, now, cost, l, got, want)
		}
		fits += len(want.Secs)
	}
	if fits < 20000 {
		t.Errorf("%d fit", fits)
	}
}

// P25.2: the Cost is taken from 1 to the task's; the sections are cut to that.
func TestNewCost(t *testing.T) {
	for _, most := range []int{1, 2, 3, 10, 4096} {
		for _, cost := range append([]int{0, 1, 2, 3, 4, 9, 10, 11, 4095, 4096, 4097}, far...) {
			want := 1
			for want < most && want < cost {
				want++
			}
			j := job.New(0, task(most, 4096), 7, cost, one(0, 0, 5000))
			if j.Cost != want || j.Done != 0 || !slices.Equal(j.Secs, one(0, 0, want)) {
				t.Errorf("a Cost of %d, of a task's %d: %+v", cost, most, j)
			}
		}
	}
}

// P25.2: any number of a task, any tick; no sections.
func TestNew(t *testing.T) {
	k := task(5)
	for _, id := range append([]int{0, 1, 15, 16}, far...) {
		for _, now := range []int{0, 1, 77, 1<<40 - 1, 1 << 40} {
			for _, deadline := range []int{1, 5, 4096} {
				k.Deadline = deadline
				for _, l := range [][]api.Section{nil, {}, one(0, 0, 3)} {
					want := job.Job{Task: id, Release: now, Deadline: now + deadline, Cost: 4}
					for range 2 {
						if got := job.New(id, k, now, 4, l); !reflect.DeepEqual(got, want) {
							t.Errorf("%+v, not %+v", got, want)
						}
					}
				}
			}
		}
	}
}

// P25.3: between two ticks only within, in the next one also from the beginning on.
func TestHoldsTakes(t *testing.T) {
	j := job.Job{Cost: 99, Secs: secs(sec{2, 1, 4}, sec{7, 4, 5}, sec{0, 7, 9})}
	holds := []int{-1, -1, 2, 2, -1, -1, -1, -1, 0, -1, -1}
	takes := []int{-1, 2, 2, 2, 7, -1, -1, 0, 0, -1, -1}
	for done := range holds {
		j.Done = done
		if h, k := j.Holds(), j.Takes(); h != holds[done] || k != takes[done] {
			t.Errorf("behind %d ticks: %d, %d, not %d, %d", done, h, k, holds[done], takes[done])
		}
	}
	for _, done := range append(far, 10, 98, 99) {
		j.Done = done
		if j.Holds() != -1 || j.Takes() != -1 {
			t.Errorf("behind %d ticks: %d, %d", done, j.Holds(), j.Takes())
		}
	}
	var none job.Job
	if none.Holds() != -1 || none.Takes() != -1 {
		t.Error("no sections")
	}
}

// P25.3: of several the first one tells, also of raw ones.
func TestFirstTells(t *testing.T) {
	j := job.Job{Done: 3, Secs: secs(sec{1, 3, 3}, sec{2, 4, 9}, sec{3, 3, 9}, sec{4, 2, 9}, sec{5, 0, 9})}
	if j.Holds() != 4 || j.Takes() != 3 {
		t.Error(j.Holds(), j.Takes())
	}
	j.Secs = secs(sec{4, 9, 2}, sec{-7, 0, 3}, sec{1 << 40, math.MinInt, math.MaxInt}, sec{0, 0, 9})
	if j.Holds() != 1<<40 || j.Takes() != 1<<40 {
		t.Error(j.Holds(), j.Takes())
	}
	j.Secs = j.Secs[:2] // what lies behind the length is none
	if j.Holds() != -1 || j.Takes() != -1 {
		t.Error(j.Holds(), j.Takes())
	}
}

// P25.3: a tick more, at most the Cost; is it over then?
func TestWork(t *testing.T) {
	for cost := 1; cost < 12; cost++ {
		j := job.New(1, task(20, 3), 5, cost, one(0, 1, 3))
		was := j
		for tick := 1; tick < cost+4; tick++ {
			if j.Over() != (tick > cost) {
				t.Errorf("ahead of the tick %d: %+v", tick, j)
			}
			over := j.Work()
			if over != (tick >= cost) || j.Over() != over || j.Done != min(tick, cost) {
				t.Errorf("behind the tick %d: %v, %+v", tick, over, j)
			}
			was.Done = j.Done
			if !reflect.DeepEqual(j, was) {
				t.Errorf("%+v, not %+v", j, was)
			}
		}
	}
}

// P25.3: raw jobs, too.
func TestWorkRaw(t *testing.T) {
	for _, c := range []struct {
		cost, done, want int
		over             bool
	}{
		{0, 0, 0, true}, {5, 9, 5, true}, {5, -3, -2, false}, {-4, 0, -4, true}, {-4, -6, -5, false},
		{math.MaxInt, math.MaxInt, math.MaxInt, true}, {5, math.MaxInt, 5, true}, {math.MinInt, math.MinInt, math.MinInt, true}, {math.MinInt, 3, math.MinInt, true},
		{math.MaxInt, math.MinInt, math.MinInt + 1, false}, {math.MaxInt, math.MaxInt - 1, math.MaxInt, true},
	} {
		j := job.Job{Cost: c.cost, Done: c.done}
		if j.Over() != (c.done >= c.cost) {
			t.Errorf("%+v is over: %v", j, j.Over())
		}
		if over := j.Work(); over != c.over || j.Done != c.want {
			t.Errorf("the Cost %d, done %d: %v, %d, not %v, %d", c.cost, c.done, over, j.Done, c.over, c.want)
		}
	}
}

// P25.3: late only above the Deadline.
func TestLate(t *testing.T) {
	j := job.New(2, task(5), 10, 5, nil)
	if j.Late(4009) || j.Late(4010) || !j.Late(4011) || j.Late(math.MinInt) || !j.Late(math.MaxInt) {
		t.Error(j.Deadline)
	}
	for _, n := range append(far, 0, 1, 5) {
		for _, now := range append(far, 0, 1, 5) {
			if got := (job.Job{Deadline: n}).Late(now); got != (now > n) {
				t.Errorf("the Deadline %d, now %d: %v", n, now, got)
			}
		}
	}
}

// P25.4: while a job works, it holds one resource at a time, none longer at once than its task may, and none behind its end.
func TestFollows(t *testing.T) {
	r := rand.New(rand.NewPCG(25, 4))
	held := 0
	for range 20000 {
		k, cost, l := random(r)
		j := job.New(0, k, 100, cost, l)
		var between, takes []int // ahead of each tick, and in it
		for over := false; !over; over = j.Work() {
			between, takes = append(between, j.Holds()), append(takes, j.Takes())
		}
		if between = append(between, j.Holds()); j.Holds() != -1 || j.Takes() != -1 {
			t.Fatalf("%+v is over, and holds %d", j, j.Holds())
		}
		for from := 0; from < j.Cost; {
			res, end := takes[from], from+1
			if between[from] != -1 {
				t.Fatalf("%+v holds %d behind %d ticks, and hasn't taken it", j, between[from], from)
			}
			for res != -1 && between[end] == res {
				if takes[end] != res {
					t.Fatalf("%+v takes %d while it holds %d", j, takes[end], res)
				}
				end++
			}
			if res != -1 && end-from > k.Longest[res] {
				t.Fatalf("%+v holds %d for %d ticks, not %d", j, res, end-from, k.Longest[res])
			}
			if res != -1 {
				held += end - from
			}
			from = end
		}
	}
	if held < 20000 {
		t.Errorf("held for %d ticks", held)
	}
}

// Rules 5 and 8: what is gone through is what was handed in then, whatever becomes of it; what is answered is new memory; no iterator is nil.
func TestMemory(t *testing.T) {
	k := task(9, 2, 2)
	room := secs(sec{0, 0, 2}, sec{1, 3, 5}, sec{0, 6, 7})
	was := slices.Clone(room)
	all := job.Sections(k, 9, room[:2])
	a, b := job.New(0, k, 0, 9, room[:2]), job.New(0, k, 0, 9, room[:2])
	a.Secs[0].To = 1
	_ = append(a.Secs, api.Section{Res: 7})
	if !slices.Equal(room, was) || !slices.Equal(b.Secs, was[:2]) {
		t.Error("lists share something")
	}
	for range 2 {
		if got := some(all, 9); !slices.Equal(got, was[:2]) || !slices.Equal(b.Secs, was[:2]) {
			t.Error(got, b.Secs)
		}
		clear(room)
	}
	if job.Sections(api.Task{}, 0, nil) == nil {
		t.Error("a nil iterator")
	}
}

// Rule 8: two that go through one iterator at once don't meet.
func TestNested(t *testing.T) {
	all := job.Sections(task(9, 1), 9, secs(sec{0, 0, 1}, sec{0, 2, 3}))
	var got []int
	for a := range all {
		for b := range all {
			got = append(got, 10*a.From+b.From)
		}
	}
	if !slices.Equal(got, []int{0, 2, 20, 22}) {
		t.Error(got)
	}
}

// P1: whatever is handed in, nothing panics, and all ends.
func TestRaw(t *testing.T) {
	r := rand.New(rand.NewPCG(25, 5))
	numbers := append([]int{0, 1, 2, 3, 7, 8, 9}, far...)
	any := func() int { return numbers[r.IntN(len(numbers))] }
	for range 20000 {
		k := api.Task{Period: any(), Deadline: any(), Cost: any()}
		for res := range k.Longest {
			k.Longest[res] = any()
		}
		l := make([]api.Section, r.IntN(20))
		for i := range l {
			l[i] = api.Section{Res: any(), From: any(), To: any()}
		}
		if got := some(job.Sections(k, any(), l), 99); len(got) > 8 {
			t.Fatal(got)
		}
		j := job.New(any(), k, any(), any(), l)
		j.Done = any()
		j.Holds()
		j.Takes()
		j.Work()
		j.Over()
		j.Late(any())
	}
}

// The chapter's example.
func TestExample(t *testing.T) {
	k := api.Task{Period: 10, Deadline: 10, Cost: 4}
	k.Longest[0] = 2
	j := job.New(0, k, 0, 9, one(0, 1, 9))
	if j.Cost != 4 || !slices.Equal(j.Secs, one(0, 1, 3)) {
		t.Error(j)
	}
}
