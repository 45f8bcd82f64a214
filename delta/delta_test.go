package delta_test

import (
	"math"
	"math/rand/v2"
	"slices"
	"testing"

	"remontoir/delta"
)

// window is the greatest number of ticks, and many how many timers there may be.
const window, many = 1 << 16, 64

// entry is a timer: its number, in how many ticks it is due.
type entry struct{ id, ticks int }

// model is timers told in another way: in a list, sorted.
type model struct{ l []entry }

func (m *model) has(id int) bool {
	return slices.ContainsFunc(m.l, func(e entry) bool { return e.id == id })
}

func (m *model) cancel(id int) bool {
	was := m.has(id)
	m.l = slices.DeleteFunc(m.l, func(e entry) bool { return e.id == id })
	return was
}

func (m *model) add(id, ticks int) bool {
	if ticks < 1 || ticks > window || len(m.l) >= many && !m.has(id) {
		return false
	}
	m.cancel(id)
	m.l = append(m.l, entry{id, ticks})
	slices.SortStableFunc(m.l, func(a, b entry) int { return a.ticks - b.ticks })
	return true
}

func (m *model) tick() []int {
	var due []int
	var rest []entry
	for _, e := range m.l {
		if e.ticks == 1 {
			due = append(due, e.id)
		} else {
			rest = append(rest, entry{e.id, e.ticks - 1})
		}
	}
	m.l = rest
	return due
}

// filled: a queue with some timers, added one behind the other.
func filled(t *testing.T, l ...entry) *delta.Queue {
	t.Helper()
	q := &delta.Queue{}
	for _, e := range l {
		if !q.Add(e.id, e.ticks) {
			t.Fatalf("Add(%d, %d)", e.id, e.ticks)
		}
	}
	return q
}

// all: what All goes through, at most so many.
func all(q *delta.Queue, most int) []entry {
	var l []entry
	for id, ticks := range q.All() {
		l = append(l, entry{id, ticks})
		if len(l) >= most {
			break
		}
	}
	return l
}

// hold holds all that a queue answers, without a change, against timers as they stand.
func hold(t *testing.T, q *delta.Queue, want ...entry) {
	t.Helper()
	for range 2 { // P2: asked for again, it is the same
		if got := all(q, 1000); !slices.Equal(got, want) || q.Len() != len(want) {
			t.Fatalf("All: %v, Len: %d, not %v", got, q.Len(), want)
		}
		for _, e := range want {
			if ticks, ok := q.Due(e.id); ticks != e.ticks || !ok {
				t.Fatalf("Due(%d): %d %v, not %d", e.id, ticks, ok, e.ticks)
			}
		}
	}
}

// P23.1 to P23.3: the zero value has no timers.
func TestZero(t *testing.T) {
	q := delta.Queue{}
	hold(t, &q)
	if l := q.Tick(); len(l) != 0 {
		t.Error(l)
	}
	for _, id := range []int{0, 1, -1, math.MinInt, math.MaxInt} {
		if ticks, ok := q.Due(id); ticks != 0 || ok || q.Cancel(id) {
			t.Errorf("%d: %d, %v", id, ticks, ok)
		}
	}
	hold(t, &q)
}

// P23.1: by when they are due, then as they were added.
func TestAdd(t *testing.T) {
	q := &delta.Queue{}
	for _, c := range []struct {
		id, ticks int
		want      []entry
	}{
		{7, 5, []entry{{7, 5}}},
		{8, 3, []entry{{8, 3}, {7, 5}}},
		{9, 9, []entry{{8, 3}, {7, 5}, {9, 9}}},
		{1, 5, []entry{{8, 3}, {7, 5}, {1, 5}, {9, 9}}},
		{2, 3, []entry{{8, 3}, {2, 3}, {7, 5}, {1, 5}, {9, 9}}},
		{3, 1, []entry{{3, 1}, {8, 3}, {2, 3}, {7, 5}, {1, 5}, {9, 9}}},
		{4, 4, []entry{{3, 1}, {8, 3}, {2, 3}, {4, 4}, {7, 5}, {1, 5}, {9, 9}}},
		{5, 9, []entry{{3, 1}, {8, 3}, {2, 3}, {4, 4}, {7, 5}, {1, 5}, {9, 9}, {5, 9}}},
		{6, 10, []entry{{3, 1}, {8, 3}, {2, 3}, {4, 4}, {7, 5}, {1, 5}, {9, 9}, {5, 9}, {6, 10}}},
	} {
		if !q.Add(c.id, c.ticks) {
			t.Errorf("Add(%d, %d)", c.id, c.ticks)
		}
		hold(t, q, c.want...)
	}
}

// P23.1: one of that number is gone: wherever it stood, the new one stands where it is due, behind those due in as many.
func TestAddAgain(t *testing.T) {
	for _, c := range []struct {
		id, ticks int
		want      []entry
	}{
		{1, 2, []entry{{2, 2}, {1, 2}, {3, 4}, {4, 4}}}, {1, 1, []entry{{1, 1}, {2, 2}, {3, 4}, {4, 4}}}, {1, 3, []entry{{2, 2}, {1, 3}, {3, 4}, {4, 4}}}, {1, 4, []entry{{2, 2}, {3, 4}, {4, 4}, {1, 4}}}, {1, 9, []entry{{2, 2}, {3, 4}, {4, 4}, {1, 9}}},
		{2, 2, []entry{{1, 2}, {2, 2}, {3, 4}, {4, 4}}}, {3, 4, []entry{{1, 2}, {2, 2}, {4, 4}, {3, 4}}}, {3, 1, []entry{{3, 1}, {1, 2}, {2, 2}, {4, 4}}},
		{4, 4, []entry{{1, 2}, {2, 2}, {3, 4}, {4, 4}}}, {4, 2, []entry{{1, 2}, {2, 2}, {4, 2}, {3, 4}}}, {4, 65536, []entry{{1, 2}, {2, 2}, {3, 4}, {4, 65536}}},
	} {
		q := filled(t, entry{1, 2}, entry{2, 2}, entry{3, 4}, entry{4, 4})
		if !q.Add(c.id, c.ticks) {
			t.Errorf("Add(%d, %d)", c.id, c.ticks)
		}
		hold(t, q, c.want...)
	}
	q := filled(t, entry{5, 8})
	q.Add(5, 3) // it was the only one
	hold(t, q, entry{5, 3})
}

// P23.1, rule 4: ticks that may not be; a timer of that number stays then.
func TestAddTicks(t *testing.T) {
	q := filled(t, entry{1, 1}, entry{2, window})
	hold(t, q, entry{1, 1}, entry{2, window})
	for _, bad := range []int{0, -1, -2, window + 1, window + 2, 2 * window, 1 << 32, 1<<32 + 1, -1 << 32, math.MinInt32, math.MinInt, math.MinInt + 1, math.MaxInt} {
		for _, id := range []int{1, 2, 3} {
			if q.Add(id, bad) {
				t.Errorf("Add(%d, %d)", id, bad)
			}
		}
		hold(t, q, entry{1, 1}, entry{2, window})
	}
	if ticks, ok := q.Due(3); ticks != 0 || ok {
		t.Error(ticks, ok)
	}
}

// P23.1: of any number there may be a timer.
func TestNumbers(t *testing.T) {
	ids := []int{0, -1, math.MinInt, math.MaxInt, 1 << 40, 1<<32 + 7, 7, -7}
	q := &delta.Queue{}
	var want []entry
	for i, id := range ids {
		if !q.Add(id, i/2+1) {
			t.Errorf("Add(%d)", id)
		}
		want = append(want, entry{id, i/2 + 1})
	}
	hold(t, q, want...)
	if ticks, ok := q.Due(1<<32 + 8); ticks != 0 || ok {
		t.Error(ticks, ok)
	}
	for i, id := range ids {
		if !q.Cancel(id) || q.Cancel(id) {
			t.Errorf("Cancel(%d)", id)
		}
		hold(t, q, want[i+1:]...)
	}
}

// P23.1: so many timers, and one more.
func TestFull(t *testing.T) {
	q := &delta.Queue{}
	var want []entry
	for i := range many {
		if !q.Add(i, 10+i) {
			t.Fatalf("Add of the timer %d", i)
		}
		want = append(want, entry{i, 10 + i})
	}
	for _, ticks := range []int{1, 10, 40, window, 0, window + 1} {
		if q.Add(many, ticks) || q.Add(-1, ticks) {
			t.Errorf("one more, in %d ticks", ticks)
		}
	}
	hold(t, q, want...)
	if !q.Add(0, 500) || !q.Add(63, 5) { // they are there already
		t.Error("Add of those that are there")
	}
	want = append([]entry{{63, 5}}, append(want[1:63:63], entry{0, 500})...)
	hold(t, q, want...)
	if q.Add(30, 0) || q.Add(many, 3) {
		t.Error("Add")
	}
	hold(t, q, want...)
	if !q.Cancel(30) || !q.Add(many, 3) || q.Add(30, 3) {
		t.Error("there is room for one")
	}
	for range 3 {
		q.Tick()
	}
	if !q.Add(30, 1) || q.Add(31+many, 1) || q.Len() != many {
		t.Error("one that was due leaves room for one")
	}
}

// P23.1: the first one, one between, the last one; the others are due as they were.
func TestCancel(t *testing.T) {
	all := []entry{{1, 2}, {2, 2}, {3, 5}, {4, 9}, {5, 9}, {6, 10}}
	for gone := range 1 << len(all) {
		q := filled(t, all...)
		var rest []entry
		for i, e := range all {
			if gone>>i&1 == 0 {
				rest = append(rest, e)
			} else if !q.Cancel(e.id) {
				t.Errorf("Cancel(%d)", e.id)
			}
		}
		for i, e := range all {
			if gone>>i&1 == 1 {
				if ticks, ok := q.Due(e.id); ticks != 0 || ok || q.Cancel(e.id) {
					t.Errorf("%d is there, due in %d", e.id, ticks)
				}
			}
		}
		hold(t, q, rest...)
		if q.Cancel(0) || q.Cancel(7) || q.Cancel(-1) || q.Cancel(math.MinInt) || q.Cancel(math.MaxInt) {
			t.Error("Cancel of none")
		}
		hold(t, q, rest...)
	}
}

// P23.2
func TestTick(t *testing.T) {
	q := filled(t, entry{9, 3}, entry{1, 1}, entry{5, 3}, entry{2, 7}, entry{7, 3}, entry{3, 1})
	for i, want := range [][]int{{1, 3}, nil, {9, 5, 7}, nil, nil, nil, {2}, nil, nil} {
		if got := q.Tick(); !slices.Equal(got, want) {
			t.Errorf("tick %d: %v, not %v", i+1, got, want)
		}
	}
	hold(t, q)
}

// P23.2: all others are due in one tick less; those that come later stand behind those due in as many.
func TestTickLess(t *testing.T) {
	q := filled(t, entry{1, 1}, entry{2, 3}, entry{3, 3}, entry{4, 6})
	q.Tick()
	hold(t, q, entry{2, 2}, entry{3, 2}, entry{4, 5})
	q.Add(5, 2)
	q.Add(6, 5)
	q.Add(7, 1)
	hold(t, q, entry{7, 1}, entry{2, 2}, entry{3, 2}, entry{5, 2}, entry{4, 5}, entry{6, 5})
	if got := q.Tick(); !slices.Equal(got, []int{7}) {
		t.Error(got)
	}
	q.Cancel(2)
	q.Add(3, 1)
	hold(t, q, entry{5, 1}, entry{3, 1}, entry{4, 4}, entry{6, 4})
	if got := q.Tick(); !slices.Equal(got, []int{5, 3}) {
		t.Error(got)
	}
	hold(t, q, entry{4, 3}, entry{6, 3})
}

// P23.2: one that is due and added anew as one tells it.
func TestTickAgain(t *testing.T) {
	q := filled(t, entry{1, 1})
	for i := range 100 {
		for _, id := range q.Tick() {
			if id != 1 || !q.Add(id, i%3+1) {
				t.Error(id)
			}
		}
	}
	if q.Len() != 1 {
		t.Error(q.Len())
	}
}

// P23.2: the farthest one, and all at once.
func TestFarthest(t *testing.T) {
	q := filled(t, entry{1, window})
	for i := range window - 1 {
		if l := q.Tick(); len(l) != 0 {
			t.Fatalf("tick %d: %v", i+1, l)
		}
	}
	hold(t, q, entry{1, 1})
	for i := range many - 1 {
		q.Add(100-i, 1)
	}
	l := q.Tick()
	if len(l) != many || l[0] != 1 || l[1] != 100 || l[63] != 38 || q.Len() != 0 {
		t.Error(l, q.Len())
	}
}

// P23.2, rule 5: what Tick tells is new memory.
func TestTickMemory(t *testing.T) {
	q := filled(t, entry{1, 1}, entry{2, 1}, entry{3, 2}, entry{4, 2})
	a := q.Tick()
	a = append(a, 8, 9)
	b := q.Tick()
	for i := range a {
		a[i] = -1
	}
	if !slices.Equal(b, []int{3, 4}) {
		t.Error(b)
	}
}

// P23.3, rule 8: left at any time, gone through again.
func TestAllLeft(t *testing.T) {
	want := []entry{{4, 2}, {9, 2}, {3, 5}, {0, 31}, {31, 31}}
	q := filled(t, want...)
	it := q.All()
	for most := 1; most <= len(want)+1; most++ {
		for range 2 {
			var got []entry
			for id, ticks := range it {
				got = append(got, entry{id, ticks})
				if len(got) == most {
					break
				}
			}
			if !slices.Equal(got, want[:min(most, len(want))]) {
				t.Errorf("left behind %d: %v", most, got)
			}
		}
	}
	met := 0
	for range it {
		for range it {
			met++
		}
	}
	if met != len(want)*len(want) {
		t.Error(met)
	}
}

// P23.3, rule 8: gone through again, it goes through what is there then.
func TestAllThen(t *testing.T) {
	q := &delta.Queue{}
	it := q.All()
	if it == nil {
		t.Fatal("a nil iterator")
	}
	told := func() []entry {
		var l []entry
		for id, ticks := range it {
			l = append(l, entry{id, ticks})
		}
		return l
	}
	if got := told(); len(got) != 0 {
		t.Error(got)
	}
	q.Add(3, 5)
	q.Add(4, 2)
	if got := told(); !slices.Equal(got, []entry{{4, 2}, {3, 5}}) {
		t.Error(got)
	}
	q.Tick()
	q.Add(1, 4)
	if got := told(); !slices.Equal(got, []entry{{4, 1}, {3, 4}, {1, 4}}) {
		t.Error(got)
	}
	q.Cancel(3)
	q.Tick()
	if got := told(); !slices.Equal(got, []entry{{1, 3}}) {
		t.Error(got)
	}
}

// P23.3, P1: what is added, cancelled and ticked meanwhile is done, and going through ends.
func TestAllMeanwhile(t *testing.T) {
	is := []entry{{1, 1}, {2, 2}, {3, 2}, {4, 6}}
	q := filled(t, is...)
	var got []entry
	for id, ticks := range q.All() {
		got = append(got, entry{id, ticks})
		q.Add(id, 100) // behind all others
		q.Cancel(3)
		if id == 4 {
			q.Tick()
		}
	}
	if !slices.Equal(got, is) {
		t.Error(got)
	}
	hold(t, q, entry{1, 99}, entry{2, 99}, entry{4, 99})
}

// P2: two queues don't meet.
func TestApart(t *testing.T) {
	a, b := filled(t, entry{1, 1}, entry{2, 4}), filled(t, entry{1, 3})
	a.Tick()
	a.Add(5, 9)
	b.Add(7, 3)
	hold(t, a, entry{2, 3}, entry{5, 9})
	hold(t, b, entry{1, 3}, entry{7, 3})
}

// P23.1 to P23.3: whatever is added, cancelled and ticked.
func TestMixture(t *testing.T) {
	for seed := range uint64(20) {
		r := rand.New(rand.NewPCG(23, seed))
		q, m := &delta.Queue{}, &model{}
		far := 1 + r.IntN(60)
		for range 400 {
			id := r.IntN(90)
			switch r.IntN(8) {
			case 0:
				if got, want := q.Tick(), m.tick(); !slices.Equal(got, want) {
					t.Fatalf("Tick: %v, not %v", got, want)
				}
			case 1:
				if got, want := q.Cancel(id), m.cancel(id); got != want {
					t.Fatalf("Cancel(%d): %v", id, got)
				}
			default:
				ticks := r.IntN(far+2) - 1
				if got, want := q.Add(id, ticks), m.add(id, ticks); got != want {
					t.Fatalf("Add(%d, %d): %v", id, ticks, got)
				}
			}
			hold(t, q, m.l...)
		}
	}
}

// The chapter's example.
func TestExample(t *testing.T) {
	q := filled(t, entry{7, 2}, entry{8, 1}, entry{9, 2})
	if a, b := q.Tick(), q.Tick(); !slices.Equal(a, []int{8}) || !slices.Equal(b, []int{7, 9}) {
		t.Error(a, b)
	}
}
