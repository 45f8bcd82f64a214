package stat_test

import (
	"fmt"
	"math"
	"math/big"
	"math/rand/v2"
	"slices"
	"strings"
	"testing"

	"remontoir/stat"
	"remontoir/trace"
)

// none are numbers of no task.
var none = []int{-1, -2, -15, -16, -17, 16, 17, 31, 32, 64, 1 << 31, 1 << 32, 1<<32 + 1, -1 << 32, math.MinInt32, math.MinInt, math.MinInt + 1, math.MaxInt, math.MaxInt - 1}

// taken: the ticks that count, by the ticks of a job.
var taken = map[int]int{
	0: 0, 1: 1, 2: 2, 65535: 65535, 65536: 65536, 65537: 65536, 1 << 17: 65536, 1 << 31: 65536, 1 << 32: 65536, 1<<32 + 1: 65536, math.MaxInt: 65536,
	-1: 0, -2: 0, -65536: 0, -65537: 0, math.MinInt32: 0, -1 << 32: 0, math.MinInt: 0,
}

// of: the Stat of jobs, told by all of them at once.
func of(late int, l ...int) stat.Stat {
	s := stat.Stat{Many: len(l), Late: late}
	for _, n := range l {
		s.Sum += n
	}
	if len(l) > 0 {
		s.Least, s.Most = slices.Min(l), slices.Max(l)
	}
	return s
}

// is holds a Stat against the one that is to be.
func is(t *testing.T, got, want stat.Stat) {
	t.Helper()
	if got != want {
		t.Fatalf("%+v, not %+v", got, want)
	}
}

// P40.1: a first job, and one more, of the bounds, past them, and far off.
func TestAdd(t *testing.T) {
	for ticks, n := range taken {
		is(t, stat.Stat{}.Add(ticks), of(0, n))
		for other, m := range taken {
			is(t, stat.Stat{}.Add(ticks).Add(other), of(0, n, m))
			is(t, stat.Stat{Late: 5}.Add(other).Add(ticks).Add(7), of(5, m, n, 7))
		}
	}
}

// P40.1: of a Many of 0 the job alone counts, whatever stands beside it; Late stays.
func TestAddNone(t *testing.T) {
	for _, late := range []int{0, 1, 7, -3, math.MaxInt, math.MinInt} {
		for _, raw := range []int{5, -5, math.MaxInt, math.MinInt} {
			is(t, stat.Stat{Least: raw, Most: raw, Sum: raw, Late: late}.Add(3), of(late, 3))
			is(t, stat.Stat{Least: -raw, Most: -raw, Sum: raw, Late: late}.Add(-3), of(late, 0))
		}
	}
}

// P40.1: also of raw values: those of a Many that isn't 0 count.
func TestAddRaw(t *testing.T) {
	is(t, stat.Stat{Many: -5, Least: 9, Most: 2, Sum: -100, Late: 4}.Add(5), stat.Stat{Many: -4, Least: 5, Most: 5, Sum: -95, Late: 4})
	is(t, stat.Stat{Many: -1, Least: -9, Most: 20, Sum: 1, Late: -4}.Add(5), stat.Stat{Many: 0, Least: -9, Most: 20, Sum: 6, Late: -4})
	is(t, stat.Stat{Many: 1 << 40, Least: 6, Most: 4, Sum: 1 << 50}.Add(1<<20), stat.Stat{Many: 1<<40 + 1, Least: 6, Most: 65536, Sum: 1<<50 + 65536})
	for _, many := range []int{math.MaxInt, math.MinInt, -1} {
		for _, raw := range []int{math.MaxInt, math.MinInt, 0, -1} {
			s := stat.Stat{Many: many, Least: raw, Most: raw, Sum: raw, Late: raw}
			is(t, s.Add(1), s.Add(1)) // it answers
		}
	}
}

// P40.1: what is handed in stays.
func TestValues(t *testing.T) {
	s, o := of(1, 4, 9), of(2, 3)
	s.Add(1)
	s.Join(o)
	s.Mean()
	is(t, s, of(1, 4, 9))
	is(t, o, of(2, 3))
}

// P40.1: rounded down, also where all together is below 0; 0 of a Many below 1.
func TestMean(t *testing.T) {
	for many := -9; many <= 9; many++ {
		for sum := -40; sum <= 40; sum++ {
			want := 0
			if many > 0 {
				want = int(math.Floor(float64(sum) / float64(many)))
			}
			if got := (stat.Stat{Many: many, Least: 50, Most: 60, Sum: sum, Late: 3}).Mean(); got != want {
				t.Errorf("%d by %d: %d, not %d", sum, many, got, want)
			}
		}
	}
	raw := []int{math.MinInt, math.MinInt + 1, -1 << 40, -1<<31 - 1, -1, 0, 1, 2, 3, 1<<31 - 1, 1 << 31, 1<<40 + 7, math.MaxInt - 1, math.MaxInt}
	for _, many := range raw {
		for _, sum := range raw {
			want := new(big.Int)
			if many > 0 {
				want.Div(big.NewInt(int64(sum)), big.NewInt(int64(many))) // rounded down, as many is above 0
			}
			if got := (stat.Stat{Many: many, Sum: sum}).Mean(); int64(got) != want.Int64() {
				t.Errorf("%d by %d: %d, not %v", sum, many, got, want)
			}
		}
	}
}

// P40.1: two together are as all of their jobs; of none and some the some, on either side.
func TestJoin(t *testing.T) {
	r := rand.New(rand.NewPCG(40, 1))
	for range 3000 {
		var lists [2][]int
		for i := range lists {
			for range r.IntN(4) {
				lists[i] = append(lists[i], r.IntN(1<<r.IntN(17)))
			}
		}
		a, b := r.IntN(4), r.IntN(4)
		is(t, of(a, lists[0]...).Join(of(b, lists[1]...)), of(a+b, slices.Concat(lists[0], lists[1])...))
	}
}

// P40.1: of two the one whose Many isn't 0, whatever stands in the other one; the first one, if both are 0; Late of both in any case.
func TestJoinNone(t *testing.T) {
	for _, raw := range []int{-7, 1, 100, math.MaxInt, math.MinInt} {
		s := stat.Stat{Many: 3, Least: 4, Most: 9, Sum: 20, Late: 2}
		o := stat.Stat{Least: raw, Most: -raw, Sum: raw, Late: 5}
		want := stat.Stat{Many: 3, Least: 4, Most: 9, Sum: 20, Late: 7}
		is(t, s.Join(o), want)
		is(t, o.Join(s), want)
		p := stat.Stat{Least: 1, Most: 2, Sum: 3, Late: 4}
		is(t, p.Join(o), stat.Stat{Least: 1, Most: 2, Sum: 3, Late: 9})
		is(t, o.Join(p), stat.Stat{Least: raw, Most: -raw, Sum: raw, Late: 9})
		s.Many, want.Many = -3, -3 // isn't 0 either
		is(t, s.Join(o), want)
		is(t, o.Join(s), want)
		is(t, s.Join(stat.Stat{Many: 3, Least: 5, Most: 10, Sum: 1, Late: 1}), stat.Stat{Many: 0, Least: 4, Most: 10, Sum: 21, Late: 3})
	}
	is(t, stat.Stat{}.Join(stat.Stat{}), stat.Stat{})
}

// P40.2: of each task its own events, in whichever order they come.
func TestOf(t *testing.T) {
	for seed := range uint64(200) {
		r := rand.New(rand.NewPCG(40, seed))
		var l []trace.Event
		var jobs [16][]int
		var late [16]int
		for range r.IntN(200) {
			e := trace.Event{Tick: r.IntN(100) - 5, Kind: trace.Kind(r.IntN(13) - 1), A: r.IntN(20) - 2, B: r.IntN(1<<r.IntN(19)) - 3}
			if r.IntN(2) == 0 {
				e.Kind = []trace.Kind{trace.Over, trace.Late}[r.IntN(2)]
			}
			l = append(l, e)
			if e.A < 0 || e.A > 15 {
				continue
			}
			switch e.Kind {
			case 3:
				jobs[e.A] = append(jobs[e.A], min(max(e.B, 0), 65536))
			case 4:
				late[e.A]++
			}
		}
		was := slices.Clone(l)
		got := stat.Of(l...)
		for task := range 16 {
			is(t, got[task], of(late[task], jobs[task]...))
		}
		if !slices.Equal(l, was) {
			t.Fatal("what was handed in is changed")
		}
	}
	if stat.Of() != [16]stat.Stat{} {
		t.Error(stat.Of())
	}
}

// P40.2: each task; of no task, and of other kinds, nothing counts; also an event that isn't right does.
func TestOfEach(t *testing.T) {
	for task := range 16 {
		var want [16]stat.Stat
		want[task] = of(1, 65536, 0)
		got := stat.Of(
			trace.Event{Tick: -1, Kind: trace.Over, A: task, B: math.MaxInt},
			trace.Event{Tick: math.MaxInt, Kind: trace.Over, A: task, B: math.MinInt},
			trace.Event{Tick: math.MinInt, Kind: trace.Late, A: task, B: -8},
		)
		if got != want {
			t.Errorf("task %d: %v, not %v", task, got, want)
		}
	}
	for _, kind := range []trace.Kind{0, 1, 2, 5, 6, 7, 8, 9, 10, 11, -1, 1<<32 + 3, math.MaxInt, math.MinInt} {
		if got := stat.Of(trace.Event{Kind: kind, A: 1, B: 2}); got != [16]stat.Stat{} {
			t.Errorf("kind %d: %v", kind, got)
		}
	}
	for _, task := range none {
		if got := stat.Of(trace.Event{Kind: trace.Over, A: task, B: 2}, trace.Event{Kind: trace.Late, A: task, B: 2}); got != [16]stat.Stat{} {
			t.Errorf("task %d: %v", task, got)
		}
	}
}

// P40.2: a job is over and late, or late alone: Late is told of a task without jobs, too.
func TestOfLate(t *testing.T) {
	got := stat.Of(trace.Event{Kind: trace.Late, A: 3, B: 1}, trace.Event{Kind: trace.Late, A: 4, B: 1}, trace.Event{Kind: trace.Over, A: 4, B: 9}, trace.Event{Kind: trace.Late, A: 4, B: 2})
	is(t, got[3], stat.Stat{Late: 1})
	is(t, got[4], of(2, 9))
}

// some: Stats of which those of the set have jobs.
func some(set uint32) [16]stat.Stat {
	var l [16]stat.Stat
	for task := range l {
		l[task] = stat.Stat{Least: 1, Most: 2, Sum: 3, Late: 4}
		if set>>task&1 == 1 {
			l[task].Many = task + 1
		}
	}
	return l
}

// P40.2, rule 8: the tasks whose Many is above 0, rising; left anywhere, gone through again.
func TestSome(t *testing.T) {
	for _, set := range []uint32{0, 1, 1 << 15, 0x8001, 0x5a5a, 0xffff, 0x00f0} {
		l := some(set)
		var want []int
		for task := range 16 {
			if l[task].Many > 0 {
				want = append(want, task)
			}
		}
		all := stat.Some(l)
		was := l
		l[0].Many, l[7].Many = 0, 9 // it goes through what was handed in
		for most := len(want) + 1; most >= 0; most-- {
			var got []int
			for task, s := range all {
				if len(got) == most {
					break
				}
				is(t, s, was[task])
				got = append(got, task)
			}
			if !slices.Equal(got, want[:min(most, len(want))]) {
				t.Errorf("%x, left behind %d: %v, not %v", set, most, got, want)
			}
		}
	}
	var l [16]stat.Stat
	l[3].Many, l[5].Many, l[6].Many, l[9].Many = -1, math.MinInt, 0, math.MaxInt
	for task := range stat.Some(l) {
		if task != 9 {
			t.Errorf("task %d", task)
		}
	}
}

// P40.2: a line for each task of which there were jobs, just so.
func TestText(t *testing.T) {
	if got := stat.Text([16]stat.Stat{}); got != "" {
		t.Errorf("%q", got)
	}
	var l [16]stat.Stat
	l[2] = stat.Stat{Many: 3, Least: 4, Most: 12, Sum: 26, Late: 1}
	l[3] = stat.Stat{Many: 0, Least: 4, Most: 12, Sum: 26, Late: 1}
	l[4] = stat.Stat{Many: -1, Least: 4, Most: 12, Sum: 26, Late: 1}
	l[15] = stat.Stat{Many: 1}
	l[0] = of(0, 65536, 0, 65536)
	if got := stat.Text(l); got != "0 3 0 43690 65536 0\n2 3 4 8 12 1\n15 1 0 0 0 0\n" {
		t.Errorf("%q", got)
	}
	r := rand.New(rand.NewPCG(40, 2))
	for range 300 {
		var l [16]stat.Stat
		var want strings.Builder
		for task := range l {
			var jobs []int
			for range r.IntN(4) {
				jobs = append(jobs, r.IntN(65537))
			}
			s := of(r.IntN(100), jobs...)
			l[task] = s
			if len(jobs) > 0 {
				fmt.Fprintf(&want, "%d %d %d %d %d %d\n", task, s.Many, s.Least, s.Sum/s.Many, s.Most, s.Late)
			}
		}
		if got := stat.Text(l); got != want.String() {
			t.Fatalf("%q, not %q", got, want.String())
		}
	}
}

// P40.2: numbers below 0, and above layer 1's Most, are told as the nearer bound.
func TestTextBounds(t *testing.T) {
	var l [16]stat.Stat
	l[1] = stat.Stat{Many: math.MaxInt, Least: math.MinInt, Most: 1 << 31, Sum: -1, Late: -1}
	l[2] = stat.Stat{Many: 1, Least: 1<<31 - 1, Most: -5, Sum: math.MaxInt, Late: math.MaxInt}
	l[3] = stat.Stat{Many: 1 << 31, Sum: math.MinInt}
	if got := stat.Text(l); got != "1 2147483647 0 0 2147483647 0\n2 1 2147483647 2147483647 0 2147483647\n3 2147483647 0 0 0 0\n" {
		t.Errorf("%q", got)
	}
}

// P40.1, P40.2: of a trace in two parts, joined, the same as of the whole.
func TestParts(t *testing.T) {
	r := rand.New(rand.NewPCG(40, 3))
	for range 200 {
		var l []trace.Event
		for range r.IntN(60) {
			l = append(l, trace.Event{Kind: trace.Over + trace.Kind(r.IntN(2)), A: r.IntN(16), B: r.IntN(70000)})
		}
		cut := r.IntN(len(l) + 1)
		a, b, whole := stat.Of(l[:cut]...), stat.Of(l[cut:]...), stat.Of(l...)
		for task := range 16 {
			is(t, a[task].Join(b[task]), whole[task])
		}
	}
}

// The chapter's example.
func TestExample(t *testing.T) {
	s := stat.Stat{}.Add(3).Add(6)
	if s.Mean() != 4 {
		t.Error(s.Mean())
	}
	if got := stat.Text([16]stat.Stat{0: s}); got != "0 2 3 4 6 0\n" {
		t.Errorf("%q", got)
	}
}
