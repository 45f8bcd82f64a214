package sema_test

import (
	"math"
	"math/rand/v2"
	"slices"
	"testing"

	"remontoir/api"
	"remontoir/mask"
	"remontoir/sema"
)

// none are numbers of no task.
var none = []int{-1, -2, -15, -16, -17, 16, 17, 31, 32, 33, 64, 255, 256, 1 << 31, 1 << 32, 1<<32 + 1, -1 << 32, math.MinInt32, math.MinInt, math.MinInt + 1, math.MaxInt - 1, math.MaxInt}

// model is a counter told in another way: of each one that isn't free who has it, and all that wait, rising.
type model struct {
	most  int
	had   []int
	waits []int
}

func (m *model) has(task int) int {
	n := 0
	for _, who := range m.had {
		if who == task {
			n++
		}
	}
	return n
}

func (m *model) get(task int) (bool, api.Errno) {
	switch {
	case task < 0 || task > 15:
		return false, api.ErrTask
	case slices.Contains(m.waits, task):
		return false, api.ErrBusy
	case len(m.had) == m.most:
		m.waits = append(m.waits, task)
		slices.Sort(m.waits)
		return false, api.OK
	}
	m.had = append(m.had, task)
	return true, api.OK
}

func (m *model) put(task int) (int, bool, api.Errno) {
	if task < 0 || task > 15 {
		return 0, false, api.ErrTask
	}
	i := slices.Index(m.had, task)
	if i < 0 {
		return 0, false, api.ErrOrder
	}
	if len(m.waits) == 0 {
		m.had = slices.Delete(m.had, i, i+1)
		return 0, false, api.OK
	}
	next := m.waits[0]
	m.had[i], m.waits = next, m.waits[1:]
	return next, true, api.OK
}

func (m *model) quit(task int) bool {
	i := slices.Index(m.waits, task)
	if i >= 0 {
		m.waits = slices.Concat(m.waits[:i], m.waits[i+1:])
	}
	return i >= 0
}

func (m *model) end(task int) []int {
	m.quit(task)
	var l []int
	for m.has(task) > 0 {
		if next, ok, _ := m.put(task); ok {
			l = append(l, next)
		}
	}
	return l
}

// hold holds all that a counter answers against a model (P52.4: it is sound).
func hold(t *testing.T, s *sema.Sema, m *model) {
	t.Helper()
	if s.Free() != m.most-len(m.had) || s.Waits() != mask.Of(m.waits...) || !s.Sound() {
		t.Fatalf("Free %d, Waits %x, Sound %v, not %d, %v", s.Free(), s.Waits(), s.Sound(), m.most-len(m.had), m.waits)
	}
	for task := -2; task < 35; task++ {
		if s.Has(task) != m.has(task) {
			t.Fatalf("Has(%d): %d, not %d", task, s.Has(task), m.has(task))
		}
	}
}

// fresh: a counter of so many, and its model.
func fresh(t *testing.T, most int) (*sema.Sema, *model) {
	t.Helper()
	s, e := sema.New(most)
	if s == nil || e != api.OK {
		t.Fatalf("New(%d): %v", most, e)
	}
	return s, &model{most: most}
}

// get holds what Get answers against a model.
func get(t *testing.T, s *sema.Sema, m *model, l ...int) {
	t.Helper()
	for _, task := range l {
		got, e := s.Get(task)
		if want, f := m.get(task); got != want || e != f {
			t.Fatalf("Get(%d): %v %v, not %v %v", task, got, e, want, f)
		}
		hold(t, s, m)
	}
}

// put holds what Put answers against a model.
func put(t *testing.T, s *sema.Sema, m *model, l ...int) {
	t.Helper()
	for _, task := range l {
		got, ok, e := s.Put(task)
		if want, there, f := m.put(task); got != want || ok != there || e != f {
			t.Fatalf("Put(%d): %d %v %v, not %d %v %v", task, got, ok, e, want, there, f)
		}
		hold(t, s, m)
	}
}

// quit holds what Quit answers against a model.
func quit(t *testing.T, s *sema.Sema, m *model, l ...int) {
	t.Helper()
	for _, task := range l {
		if got, want := s.Quit(task), m.quit(task); got != want {
			t.Fatalf("Quit(%d): %v, not %v", task, got, want)
		}
		hold(t, s, m)
	}
}

// end holds what End answers against a model.
func end(t *testing.T, s *sema.Sema, m *model, l ...int) {
	t.Helper()
	for _, task := range l {
		if got, want := s.End(task), m.end(task); !slices.Equal(got, want) {
			t.Fatalf("End(%d): %v, not %v", task, got, want)
		}
		hold(t, s, m)
	}
}

// P52.1: each bound, one past it, and what is far off.
func TestNew(t *testing.T) {
	for _, most := range []int{1, 2, 3, 15, 16, 17, 65535, 65536} {
		s, m := fresh(t, most)
		hold(t, s, m)
		for _, task := range none {
			if s.Has(task) != 0 {
				t.Errorf("Has(%d): %d", task, s.Has(task))
			}
		}
	}
	for _, bad := range []int{0, -1, -2, -65536, 65537, 65538, 1 << 17, 1 << 31, 1 << 32, 1<<32 + 1, -1<<32 + 1, math.MinInt32, math.MinInt, math.MinInt + 1, math.MaxInt} {
		if s, e := sema.New(bad); s != nil || e != api.ErrSize {
			t.Errorf("New(%d): %v, %v", bad, s, e)
		}
	}
}

// row: the tasks ahead of one.
func row(many int) []int {
	var l []int
	for task := range many {
		l = append(l, task)
	}
	return l
}

// P52.1, P52.2: just so many are got, also of the most that there may be, by one task and by all.
func TestMost(t *testing.T) {
	for _, most := range []int{1, 2, 16, 33, 65535, 65536} {
		for _, tasks := range []int{1, 16} {
			s, _ := fresh(t, most)
			for n := range most {
				if ok, e := s.Get(15 - n%tasks); !ok || e != api.OK || s.Free() != most-n-1 {
					t.Fatalf("of %d the time %d: %v %v, Free %d", most, n, ok, e, s.Free())
				}
			}
			for task := range 16 {
				if ok, e := s.Get(task); ok || e != api.OK || s.Waits() != mask.Set(2<<task-1) || s.Free() != 0 {
					t.Fatalf("of %d the task %d: %v %v, Waits %x", most, task, ok, e, s.Waits())
				}
			}
			// Each gives one to the least that waits, as long as one does.
			want := row(min(15, (most+tasks-1)/tasks))
			if got := s.End(15); !slices.Equal(got, want) {
				t.Errorf("of %d: %v, not %v", most, got, want)
			}
			if s.Has(15) != 0 || !s.Sound() {
				t.Errorf("of %d: Has(15) %d, sound %v", most, s.Has(15), s.Sound())
			}
		}
	}
}

// P52.2: each task beside each; the least that waits goes first, whoever came first.
func TestPairs(t *testing.T) {
	for a := range 16 {
		for b := range 16 {
			s, m := fresh(t, 1)
			get(t, s, m, a, b, b, a, a)
			put(t, s, m, a)
			put(t, s, m, b, a, b, a)
			quit(t, s, m, a, b)
			put(t, s, m, a, b)
			hold(t, s, m)
		}
	}
	s, m := fresh(t, 1)
	get(t, s, m, 7, 12, 3, 15, 0, 9)
	var l []int
	for who := 7; ; {
		next, ok, e := s.Put(who)
		m.put(who)
		hold(t, s, m)
		if e != api.OK {
			t.Fatal(e)
		}
		if !ok {
			break
		}
		l = append(l, next)
		who = next
	}
	if !slices.Equal(l, []int{0, 3, 9, 12, 15}) {
		t.Error(l)
	}
}

// P52.2, rule 4: one that waits is busy, has what it had, and nothing has changed.
func TestBusy(t *testing.T) {
	s, m := fresh(t, 2)
	get(t, s, m, 4, 6, 4, 4, 6, 4, 6)
	if s.Waits() != mask.Of(4, 6) || s.Has(4) != 1 || s.Has(6) != 1 {
		t.Error(s.Waits(), s.Has(4), s.Has(6))
	}
	put(t, s, m, 6)
	get(t, s, m, 6, 4)
	if s.Has(4) != 2 || s.Waits() != mask.Of(4, 6) {
		t.Error(s.Has(4), s.Waits())
	}
}

// P52.2: who gives one back while it waits gets it itself, if it is the least.
func TestOwn(t *testing.T) {
	s, m := fresh(t, 1)
	get(t, s, m, 5, 5)
	put(t, s, m, 5)
	if s.Has(5) != 1 || s.Waits() != 0 {
		t.Error(s.Has(5), s.Waits())
	}
	get(t, s, m, 5, 3)
	put(t, s, m, 5)
	if s.Has(3) != 1 || s.Waits() != mask.Of(5) {
		t.Error(s.Has(3), s.Waits())
	}
}

// P52.2, P52.3, rules 4 and 6: of no task ErrTask, false, none, and nothing has changed.
func TestNone(t *testing.T) {
	s, m := fresh(t, 2)
	for _, full := range []bool{false, true} {
		for _, task := range none {
			for range 2 {
				get(t, s, m, task)
				put(t, s, m, task)
				quit(t, s, m, task)
				end(t, s, m, task)
				if s.Has(task) != 0 {
					t.Errorf("Has(%d): %d", task, s.Has(task))
				}
			}
		}
		if !full {
			get(t, s, m, 0, 15, 1, 14)
		}
	}
}

// P52.2, rule 4: who has none can give none back, also while it waits, and nothing has changed.
func TestPutNone(t *testing.T) {
	s, m := fresh(t, 1)
	for task := range 16 {
		put(t, s, m, task)
	}
	get(t, s, m, 8, 2, 9)
	put(t, s, m, 2, 9, 3)
	put(t, s, m, 8, 8, 2, 2, 9, 9)
	if s.Free() != 1 {
		t.Error(s.Free())
	}
}

// P52.3: who doesn't wait any more gets none; others do.
func TestQuit(t *testing.T) {
	s, m := fresh(t, 1)
	quit(t, s, m, 0, 15)
	get(t, s, m, 8)
	quit(t, s, m, 8)
	get(t, s, m, 2, 5, 8)
	quit(t, s, m, 2, 2, 8, 8)
	put(t, s, m, 8)
	if s.Has(5) != 1 || s.Waits() != 0 {
		t.Error(s.Has(5), s.Waits())
	}
	get(t, s, m, 2, 2)
	quit(t, s, m, 2)
	put(t, s, m, 5)
	get(t, s, m, 2)
	if s.Free() != 0 || s.Has(2) != 1 {
		t.Error(s.Free(), s.Has(2))
	}
}

// P52.3: who ends gives all back, doesn't wait, and gets none of them.
func TestEnd(t *testing.T) {
	s, m := fresh(t, 6)
	for task := range 16 {
		end(t, s, m, task)
	}
	get(t, s, m, 4, 4, 4, 4, 9, 9, 12, 4, 1)
	if got := s.End(4); !slices.Equal(got, []int{1, 12}) || s.Free() != 2 || s.Has(4) != 0 || s.Waits() != 0 {
		t.Error(got, s.Free(), s.Has(4), s.Waits())
	}
	m.end(4)
	hold(t, s, m)
	get(t, s, m, 4, 4, 0, 3, 2)
	if got := s.End(3); len(got) != 0 || s.Waits() != mask.Of(0, 2) { // it waited alone
		t.Error(got, s.Waits())
	}
	m.end(3)
	if got := s.End(9); !slices.Equal(got, []int{0, 2}) {
		t.Error(got)
	}
	m.end(9)
	hold(t, s, m)
	end(t, s, m, 0, 1, 2, 4, 12, 12)
	if s.Free() != 6 {
		t.Error(s.Free())
	}
}

// Rule 5: what End tells is new memory.
func TestMemory(t *testing.T) {
	s, m := fresh(t, 2)
	get(t, s, m, 3, 3, 1, 2)
	l := s.End(3)
	m.end(3)
	clear(l)
	_ = append(l[:1], 7, 7)
	hold(t, s, m)
}

// P2: two don't meet.
func TestApart(t *testing.T) {
	s, m := fresh(t, 2)
	o, n := fresh(t, 3)
	get(t, s, m, 1, 2, 3)
	hold(t, o, n)
	get(t, o, n, 3, 3, 3, 1)
	hold(t, s, m)
	end(t, s, m, 1)
	hold(t, o, n)
}

// P52.1 to P52.4: whatever is got, put, quit and ended.
func TestMixture(t *testing.T) {
	for seed := range uint64(100) {
		r := rand.New(rand.NewPCG(52, seed))
		s, m := fresh(t, 1+r.IntN(1+r.IntN(20)))
		for range 500 {
			task := r.IntN(18) - 1
			switch r.IntN(10) {
			case 0, 1, 2, 3:
				get(t, s, m, task)
			case 4:
				quit(t, s, m, task)
			case 5:
				end(t, s, m, task)
			default:
				if len(m.had) > 0 && r.IntN(4) > 0 {
					task = m.had[r.IntN(len(m.had))]
				}
				put(t, s, m, task)
			}
		}
	}
}

// The chapter's example.
func TestExample(t *testing.T) {
	s, _ := fresh(t, 1)
	if ok, e := s.Get(2); !ok || e != api.OK {
		t.Error(ok, e)
	}
	if ok, e := s.Get(1); ok || e != api.OK {
		t.Error(ok, e)
	}
	if next, ok, e := s.Put(2); next != 1 || !ok || e != api.OK {
		t.Error(next, ok, e)
	}
}
