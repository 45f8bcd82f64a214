package watch_test

import (
	"math"
	"math/rand/v2"
	"slices"
	"testing"

	"remontoir/api"
	"remontoir/mask"
	"remontoir/watch"
)

// none are numbers of no task.
var none = []int{-1, -2, -15, -16, -17, 16, 17, 31, 32, 33, 64, 255, 256, 1 << 31, 1 << 32, 1<<32 + 1, -1 << 32, math.MinInt32, math.MinInt, math.MinInt + 1, math.MaxInt - 1, math.MaxInt}

// one is a task of a model.
type one struct {
	w     watch.Window
	word  int // the tick of the last word
	wrong bool
}

// model is a dog told in another way: by the ticks in which words were given.
type model struct {
	now   int
	l     map[int]*one
	count int
}

func (m *model) watch(task int, w watch.Window) api.Errno {
	if task < 0 || task > 15 || w.From < 0 || w.To < w.From || w.To < 1 || w.To > 65536 {
		return api.ErrTask
	}
	m.l[task] = &one{w: w, word: m.now}
	return api.OK
}

func (m *model) leave(task int) bool {
	_, ok := m.l[task]
	delete(m.l, task)
	return ok
}

func (m *model) word(task int) api.Errno {
	o := m.l[task]
	switch {
	case o == nil:
		return api.ErrTask
	case o.wrong:
		return api.ErrLate
	case m.now < o.word+o.w.From:
		o.wrong = true
		m.count++
		return api.ErrEarly
	}
	o.word = m.now
	return api.OK
}

func (m *model) tick() mask.Set {
	m.now++
	var late mask.Set
	for task, o := range m.l {
		if !o.wrong && m.now > o.word+o.w.To {
			o.wrong = true
			m.count++
			late |= 1 << task
		}
	}
	return late
}

// left is what Left tells of a task.
type left struct {
	task, ticks int
}

func (m *model) left() []left {
	var l []left
	for task := range 16 {
		if o := m.l[task]; o != nil && !o.wrong {
			l = append(l, left{task, o.word + o.w.To - m.now})
		}
	}
	return l
}

func (m *model) wrong() mask.Set {
	var s mask.Set
	for task, o := range m.l {
		if o.wrong {
			s |= 1 << task
		}
	}
	return s
}

// collect: what Left goes through; at most so many.
func collect(d *watch.Dog, most int) []left {
	var l []left
	for task, ticks := range d.Left() {
		if len(l) == most {
			break
		}
		l = append(l, left{task, ticks})
	}
	return l
}

// hold holds all that a dog answers against a model.
func hold(t *testing.T, d *watch.Dog, m *model) {
	t.Helper()
	if d.Wrong() != m.wrong() || d.Count() != min(m.count, 65536) {
		t.Fatalf("Wrong %x, Count %d, not %x, %d", d.Wrong(), d.Count(), m.wrong(), m.count)
	}
	for range 2 { // P2, rule 8: gone through again, it is the same
		if got, want := collect(d, 99), m.left(); !slices.Equal(got, want) {
			t.Fatalf("Left: %v, not %v", got, want)
		}
	}
}

// fresh: a dog that watches over nobody, and its model.
func fresh() (*watch.Dog, *model) {
	return &watch.Dog{}, &model{l: map[int]*one{}}
}

// see holds what Watch answers against a model.
func see(t *testing.T, d *watch.Dog, m *model, task, from, to int) {
	t.Helper()
	w := watch.Window{From: from, To: to}
	if got, want := d.Watch(task, w), m.watch(task, w); got != want {
		t.Fatalf("Watch(%d, %v): %v, not %v", task, w, got, want)
	}
	hold(t, d, m)
}

// word holds what Word answers against a model.
func word(t *testing.T, d *watch.Dog, m *model, l ...int) {
	t.Helper()
	for _, task := range l {
		if got, want := d.Word(task), m.word(task); got != want {
			t.Fatalf("tick %d: Word(%d): %v, not %v", m.now, task, got, want)
		}
		hold(t, d, m)
	}
}

// leave holds what Leave answers against a model.
func leave(t *testing.T, d *watch.Dog, m *model, l ...int) {
	t.Helper()
	for _, task := range l {
		if got, want := d.Leave(task), m.leave(task); got != want {
			t.Fatalf("Leave(%d): %v, not %v", task, got, want)
		}
		hold(t, d, m)
	}
}

// ticks holds what so many Ticks answer against a model.
func ticks(t *testing.T, d *watch.Dog, m *model, many int) {
	t.Helper()
	for range many {
		if got, want := d.Tick(), m.tick(); got != want {
			t.Fatalf("Tick %d: %x, not %x", m.now, got, want)
		}
	}
	hold(t, d, m)
}

// P49.1: each bound, one past it, and what is far off, of both; and what Watch says of it.
func TestRight(t *testing.T) {
	l := []int{0, 1, 2, 3, 65535, 65536, 65537, 1 << 17, 1 << 31, 1 << 32, 1<<32 + 1, -1, -2, -65536, -1 << 32, math.MinInt32, math.MinInt, math.MinInt + 1, math.MaxInt, math.MaxInt - 1}
	for _, from := range l {
		for _, to := range l {
			w := watch.Window{From: from, To: to}
			want := 0 <= from && from <= to && 1 <= to && to <= 65536
			if w.Right() != want {
				t.Errorf("%v: %v", w, w.Right())
			}
			d, m := fresh()
			see(t, d, m, 3, from, to)
			word(t, d, m, 3)
			see(t, d, m, 3, 2, 7)
			ticks(t, d, m, 2)
			see(t, d, m, 3, from, to)
			word(t, d, m, 3)
		}
	}
	if (watch.Window{}).Right() || !(watch.Window{To: 1}).Right() {
		t.Error("Right")
	}
}

// The chapter's words: the zero value watches over nobody.
func TestZero(t *testing.T) {
	d := watch.Dog{}
	m := &model{l: map[int]*one{}}
	for task := range 16 {
		word(t, &d, m, task)
		leave(t, &d, m, task)
	}
	ticks(t, &d, m, 100)
	if d.Wrong() != 0 || d.Count() != 0 {
		t.Error(d.Wrong(), d.Count())
	}
	see(t, &d, m, 0, 0, 1)
}

// P49.1, P49.2, rules 4 and 6: of no task ErrTask, or false, and nothing has changed.
func TestNone(t *testing.T) {
	d, m := fresh()
	see(t, d, m, 0, 1, 9)
	see(t, d, m, 15, 2, 9)
	word(t, d, m, 15)
	ticks(t, d, m, 1)
	for _, task := range none {
		for range 2 {
			see(t, d, m, task, 1, 9)
			word(t, d, m, task)
			leave(t, d, m, task)
		}
	}
	ticks(t, d, m, 9)
}

// P49.2: each task, a word in each tick from the first one on: too early, in time, too late.
func TestWord(t *testing.T) {
	for task := range 16 {
		for _, w := range []watch.Window{{From: 0, To: 1}, {From: 1, To: 1}, {From: 0, To: 5}, {From: 2, To: 5}, {From: 5, To: 5}, {From: 4, To: 5}} {
			for at := range 8 {
				d, m := fresh()
				see(t, d, m, task, w.From, w.To)
				ticks(t, d, m, at)
				want := api.OK
				if at < w.From {
					want = api.ErrEarly
				} else if at > w.To {
					want = api.ErrLate
				}
				if e := d.Word(task); e != want {
					t.Errorf("%v: Word behind %d ticks: %v, not %v", w, at, e, want)
				}
				m.word(task)
				hold(t, d, m)
				if wrong := want != api.OK; d.Wrong().Has(task) != wrong || (d.Count() == 1) != wrong {
					t.Errorf("%v: Word behind %d ticks: Wrong %x, Count %d", w, at, d.Wrong(), d.Count())
				}
				// It counts from the word on; once wrong it stays so.
				ticks(t, d, m, w.From)
				word(t, d, m, task)
				ticks(t, d, m, 7)
				word(t, d, m, task)
			}
		}
	}
}

// P49.2: just in the tick behind To ticks a task becomes wrong, once.
func TestTick(t *testing.T) {
	for _, to := range []int{1, 2, 7, 65535, 65536} {
		for _, from := range []int{0, 1, to} {
			d, m := fresh()
			see(t, d, m, 4, from, to)
			ticks(t, d, m, to)
			if d.Wrong() != 0 {
				t.Errorf("%d: wrong %x", to, d.Wrong())
			}
			word(t, d, m, 4)
			ticks(t, d, m, to)
			if a, b := d.Tick(), d.Tick(); a != 1<<4 || b != 0 || d.Wrong() != 1<<4 || d.Count() != 1 {
				t.Errorf("%d: %x, %x, Count %d", to, a, b, d.Count())
			}
			m.tick()
			m.tick()
			ticks(t, d, m, 3)
			word(t, d, m, 4, 4)
		}
	}
}

// P49.2: all tasks at once, and each beside each.
func TestTasks(t *testing.T) {
	d, m := fresh()
	for task := range 16 {
		see(t, d, m, task, 1, 5)
	}
	ticks(t, d, m, 5)
	word(t, d, m, 3, 8, 8)
	if got := d.Tick(); got != 0xffff&^(1<<3|1<<8) || d.Count() != 15 {
		t.Errorf("%x, Count %d", got, d.Count())
	}
	m.tick()
	hold(t, d, m)
	for task := range 16 {
		see(t, d, m, task, task, 2*task+1)
	}
	ticks(t, d, m, 40)
}

// P49.1: watched over anew, a task isn't wrong, has its new window, and its word is given now; Count stays.
func TestWatchAgain(t *testing.T) {
	d, m := fresh()
	see(t, d, m, 2, 3, 6)
	ticks(t, d, m, 2)
	see(t, d, m, 2, 3, 8)
	ticks(t, d, m, 2)
	word(t, d, m, 2)
	if d.Wrong() != 4 || d.Count() != 1 {
		t.Error(d.Wrong(), d.Count())
	}
	see(t, d, m, 2, 0, 3)
	if d.Wrong() != 0 || d.Count() != 1 {
		t.Error(d.Wrong(), d.Count())
	}
	ticks(t, d, m, 3)
	word(t, d, m, 2)
	ticks(t, d, m, 4)
	see(t, d, m, 2, 2, 2)
	ticks(t, d, m, 2)
	word(t, d, m, 2)
	// What isn't right changes nothing, of a task that is wrong, and of one that isn't.
	word(t, d, m, 2)
	see(t, d, m, 2, 3, 2)
	see(t, d, m, 2, 0, 0)
	see(t, d, m, 5, 1, 4)
	ticks(t, d, m, 1)
	see(t, d, m, 5, -1, 4)
	ticks(t, d, m, 4)
}

// P49.1: left, a task is neither watched over nor wrong; whoever else is stays so.
func TestLeave(t *testing.T) {
	for task := range 16 {
		d, m := fresh()
		other := (task + 5) % 16
		see(t, d, m, other, 1, 3)
		leave(t, d, m, task)
		see(t, d, m, task, 1, 3)
		leave(t, d, m, task, task)
		ticks(t, d, m, 9)
		word(t, d, m, task)
		see(t, d, m, task, 1, 3)
		ticks(t, d, m, 4)
		if d.Wrong() != mask.Of(task, other) {
			t.Errorf("Wrong: %x", d.Wrong())
		}
		leave(t, d, m, task, task)
		if d.Wrong() != mask.Of(other) || d.Count() != 2 {
			t.Errorf("Wrong: %x, Count %d", d.Wrong(), d.Count())
		}
		word(t, d, m, task, other)
		see(t, d, m, task, 0, 2)
		word(t, d, m, task)
	}
}

// P49.3: at most MaxWindow are told, of whichever kind; one that is wrong already doesn't count again.
func TestCount(t *testing.T) {
	d, m := fresh()
	for n := range 65536 + 50 {
		if d.Count() != min(n, 65536) {
			t.Fatalf("the time %d: %d", n, d.Count())
		}
		task := n % 16
		d.Watch(task, watch.Window{From: 1, To: 1})
		if n%2 == 0 {
			d.Tick()
			d.Tick()
			d.Tick()
		} else {
			d.Word(task)
			d.Word(task)
		}
		d.Leave(task)
		m.count++
	}
	hold(t, d, m)
	see(t, d, m, 3, 5, 5)
	word(t, d, m, 3, 3)
	ticks(t, d, m, 9)
}

// P49.3: all 16 become wrong in one tick, of which some are past MaxWindow.
func TestCountAll(t *testing.T) {
	d, m := fresh()
	for n := range 65536/16 + 2 {
		for task := range 16 {
			d.Watch(task, watch.Window{To: 1})
			if n == 0 && task == 4 { // so that MaxWindow isn't met just by a tick
				d.Leave(task)
			}
		}
		d.Tick()
		d.Tick()
		if want := min(16*n+15, 65536); d.Count() != want {
			t.Fatalf("the time %d: %d, not %d", n, d.Count(), want)
		}
	}
	m.count = 65536
	for task := range 16 {
		m.l[task] = &one{wrong: true}
	}
	hold(t, d, m)
}

// P49.3, rule 8: rising, left anywhere, gone through again.
func TestLeft(t *testing.T) {
	d, m := fresh()
	for _, task := range []int{15, 3, 0, 9, 7, 12} {
		see(t, d, m, task, 0, 4+task)
		ticks(t, d, m, 1)
	}
	word(t, d, m, 3)
	leave(t, d, m, 12)
	want := m.left()
	for most := range len(want) + 2 {
		if got := collect(d, most); !slices.Equal(got, want[:min(most, len(want))]) {
			t.Errorf("left behind %d: %v, not %v", most, got, want)
		}
	}
	all := d.Left()
	ticks(t, d, m, 2)
	var got []left
	for task, n := range all { // told of what is there then
		got = append(got, left{task, n})
	}
	if !slices.Equal(got, m.left()) {
		t.Errorf("%v, not %v", got, m.left())
	}
}

// P49.3, P1: whatever is done meanwhile, Left goes through what was there as it began.
func TestLeftMeanwhile(t *testing.T) {
	d, m := fresh()
	for _, task := range []int{2, 5, 6, 11} {
		see(t, d, m, task, 1, 20)
	}
	want := m.left()
	var got []left
	for task, n := range d.Left() {
		got = append(got, left{task, n})
		see(t, d, m, 14, 0, 3)
		leave(t, d, m, 5)
		word(t, d, m, 6)
		ticks(t, d, m, 1)
		see(t, d, m, 11, 0, 50)
	}
	if !slices.Equal(got, want) {
		t.Errorf("%v, not %v", got, want)
	}
	hold(t, d, m)
}

// P2: two dogs don't meet, neither when one is copied.
func TestApart(t *testing.T) {
	d, m := fresh()
	see(t, d, m, 1, 1, 5)
	ticks(t, d, m, 2)
	e := *d
	e.Word(1)
	e.Word(1)
	e.Watch(2, watch.Window{To: 1})
	e.Tick()
	hold(t, d, m)
	ticks(t, d, m, 3)
	if e.Wrong() != 2 || e.Count() != 1 {
		t.Error(e.Wrong(), e.Count())
	}
	ticks(t, d, m, 1)
}

// P49.1 to P49.3: whatever is watched, left, told and ticked.
func TestMixture(t *testing.T) {
	for seed := range uint64(60) {
		r := rand.New(rand.NewPCG(49, seed))
		d, m := fresh()
		for range 800 {
			task := r.IntN(19) - 1
			switch r.IntN(12) {
			case 0, 1, 2:
				from := r.IntN(6) - 1
				see(t, d, m, task, from, from+r.IntN(9)-1)
			case 3:
				leave(t, d, m, task)
			case 4, 5, 6, 7:
				word(t, d, m, task)
			default:
				ticks(t, d, m, r.IntN(3))
			}
		}
		if m.count < 20 {
			t.Error("wrong", m.count, "times")
		}
	}
}

// The chapter's example.
func TestExample(t *testing.T) {
	d := watch.Dog{}
	if a, b := d.Watch(1, watch.Window{From: 2, To: 5}), d.Word(1); a != api.OK || b != api.ErrEarly {
		t.Error(a, b)
	}
}
