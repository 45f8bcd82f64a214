package alarm_test

import (
	"iter"
	"math"
	"math/rand/v2"
	"slices"
	"testing"

	"remontoir/alarm"
)

// bad are numbers that are below 0, or above MaxWindow.
var bad = []int{-1, -2, 65537, 65538, 1 << 17, 1 << 31, 1 << 32, 1<<32 + 1, -1 << 32, -1<<32 + 1, math.MinInt32, math.MinInt, math.MinInt + 1, math.MaxInt}

// ids are numbers of alarms: any will do.
var ids = []int{0, 1, -1, 63, 64, 65, 1 << 31, 1 << 32, math.MinInt32, math.MinInt, math.MaxInt}

// one is an alarm of a model.
type one struct {
	id, at, every, count int
}

// model is alarms told in another way: each with the tick in which it goes off, in the order in which they were added.
type model struct {
	now int
	l   []one
}

// find: where an alarm is; below 0: there is none.
func (m *model) find(id int) int {
	return slices.IndexFunc(m.l, func(o one) bool { return o.id == id })
}

func (m *model) stop(id int) bool {
	i := m.find(id)
	if i >= 0 {
		m.l = slices.Delete(m.l, i, i+1)
	}
	return i >= 0
}

func (m *model) set(id, ticks, every int) bool {
	if ticks < 1 || ticks > 65536 || every < 0 || every > 65536 || m.find(id) < 0 && len(m.l) == 64 {
		return false
	}
	m.stop(id)
	m.l = append(m.l, one{id: id, at: m.now + ticks, every: every})
	return true
}

func (m *model) tick() []int {
	m.now++
	var off []one
	m.l = slices.DeleteFunc(m.l, func(o one) bool {
		if o.at == m.now {
			off = append(off, o)
		}
		return o.at == m.now
	})
	var l []int
	for _, o := range off {
		l = append(l, o.id)
		if o.every > 0 {
			m.l = append(m.l, one{o.id, m.now + o.every, o.every, min(o.count+1, 65536)})
		}
	}
	return l
}

// hold holds all that alarms answer against a model.
func hold(t *testing.T, a *alarm.Alarms, m *model, more ...int) {
	t.Helper()
	if a.Len() != len(m.l) {
		t.Fatalf("Len: %d, not %d", a.Len(), len(m.l))
	}
	for _, id := range slices.Concat(ids, more) {
		due, count, there := 0, 0, false
		if i := m.find(id); i >= 0 {
			due, count, there = m.l[i].at-m.now, m.l[i].count, true
		}
		if n, ok := a.Due(id); n != due || ok != there {
			t.Fatalf("Due(%d): %d %v, not %d %v", id, n, ok, due, there)
		}
		if n := a.Count(id); n != count {
			t.Fatalf("Count(%d): %d, not %d", id, n, count)
		}
	}
}

// set holds what Set answers against a model.
func set(t *testing.T, a *alarm.Alarms, m *model, id, ticks, every int) {
	t.Helper()
	if got, want := a.Set(id, ticks, every), m.set(id, ticks, every); got != want {
		t.Fatalf("Set(%d, %d, %d): %v, not %v", id, ticks, every, got, want)
	}
	hold(t, a, m, id)
}

// ticks holds what so many Ticks answer against a model.
func ticks(t *testing.T, a *alarm.Alarms, m *model, many int) {
	t.Helper()
	for range many {
		if got, want := a.Tick(), m.tick(); !slices.Equal(got, want) {
			t.Fatalf("Tick %d: %v, not %v", m.now, got, want)
		}
	}
	hold(t, a, m)
}

// fresh: no alarms, and their model.
func fresh(t *testing.T) (*alarm.Alarms, *model) {
	t.Helper()
	a := alarm.New()
	if a == nil {
		t.Fatal("New: nil")
	}
	return a, &model{}
}

// off is what goes off, and in which tick.
type off struct {
	tick, id int
}

// collect: what is gone through; at most so many.
func collect(l iter.Seq2[int, int], most int) []off {
	var got []off
	for n, id := range l {
		if len(got) == most {
			break
		}
		got = append(got, off{n, id})
	}
	return got
}

// P48.1: there are none at first.
func TestNew(t *testing.T) {
	a, m := fresh(t)
	hold(t, a, m)
	for _, id := range ids {
		if a.Stop(id) {
			t.Errorf("Stop(%d)", id)
		}
	}
	ticks(t, a, m, 100)
}

// P48.1: each bound of both numbers, one past it, and what is far off; then nothing has changed.
func TestSet(t *testing.T) {
	good := []int{0, 1, 2, 65535, 65536}
	for _, n := range slices.Concat(good, bad) {
		for _, every := range slices.Concat(good, bad) {
			a, m := fresh(t)
			set(t, a, m, 4, 5, 6)
			set(t, a, m, 7, n, every) // a new one
			set(t, a, m, 4, n, every) // one that was
			ticks(t, a, m, 20)
			set(t, a, m, 4, n, every)
			ticks(t, a, m, 20)
		}
	}
	for _, id := range ids {
		a, m := fresh(t)
		set(t, a, m, id, 2, 3)
		set(t, a, m, id, 3, 0)
		ticks(t, a, m, 9)
	}
}

// P48.1: there is room for 64, none of which is another one's; one that was may be set anew.
func TestRoom(t *testing.T) {
	for _, every := range []int{0, 4} {
		a, m := fresh(t)
		for id := range 64 {
			set(t, a, m, 3*id, 10+id%3, every)
		}
		for _, id := range []int{1, -3, 192, 64} {
			set(t, a, m, id, 5, every)
			if id%3 != 0 && a.Set(id, 5, every) {
				t.Errorf("Set(%d)", id)
			}
		}
		set(t, a, m, 9, 12, every)
		set(t, a, m, 189, 1, every)
		if a.Len() != 64 {
			t.Error(a.Len())
		}
		ticks(t, a, m, 40)
		if got, want := a.Stop(0), m.stop(0); got != want {
			t.Errorf("Stop: %v, not %v", got, want)
		}
		set(t, a, m, 1, 5, every)
		ticks(t, a, m, 40)
	}
}

// P48.1: stopped, it is gone: it doesn't go off any more, and counts anew when it is set.
func TestStop(t *testing.T) {
	a, m := fresh(t)
	for _, every := range []int{0, 1, 3} {
		set(t, a, m, 5, 3, every)
		set(t, a, m, 6, 3, 2)
		ticks(t, a, m, 2)
		if !a.Stop(5) || !m.stop(5) || a.Stop(5) || a.Stop(7) {
			t.Error("Stop")
		}
		hold(t, a, m)
		ticks(t, a, m, 10)
		set(t, a, m, 5, 3, every)
		ticks(t, a, m, 4)
		if got, want := a.Stop(5), m.stop(5); got != want || got != (every > 0) {
			t.Errorf("Stop: %v, not %v", got, want)
		}
		hold(t, a, m)
	}
}

// P48.2: those with an every of 0 go off once; the others again and again, from the very first tick on.
func TestTick(t *testing.T) {
	for first := 1; first <= 6; first++ {
		for every := 0; every <= 6; every++ {
			a, _ := fresh(t)
			if !a.Set(9, first, every) {
				t.Fatal("Set")
			}
			for n := 1; n <= 40; n++ {
				var want []int
				if n == first || every > 0 && n > first && (n-first)%every == 0 {
					want = []int{9}
				}
				if got := a.Tick(); !slices.Equal(got, want) {
					t.Fatalf("Set(9, %d, %d): tick %d: %v", first, every, n, got)
				}
				if there := every > 0 || n < first; there && a.Len() != 1 || !there && a.Len() != 0 {
					t.Fatalf("Set(9, %d, %d): tick %d: Len %d", first, every, n, a.Len())
				}
			}
		}
	}
}

// P48.2: the longest times there may be, and one tick ahead of them.
func TestLong(t *testing.T) {
	a, m := fresh(t)
	set(t, a, m, 1, 65536, 65536)
	set(t, a, m, 2, 65536, 65535)
	set(t, a, m, 3, 65535, 0)
	ticks(t, a, m, 65534)
	for range 3 {
		ticks(t, a, m, 1)
	}
	ticks(t, a, m, 65532)
	for range 4 {
		ticks(t, a, m, 1)
	}
	if a.Count(1) != 2 || a.Count(2) != 2 || a.Len() != 2 {
		t.Error(a.Count(1), a.Count(2), a.Len())
	}
}

// P48.2: those that go off in one tick are told as they stand, and stand behind those that were there for the tick in which they go off next.
func TestRow(t *testing.T) {
	a, m := fresh(t)
	for _, id := range []int{5, 1, 9, 3} {
		set(t, a, m, id, 4, 2)
	}
	set(t, a, m, 7, 6, 0) // there ahead of those that are added anew
	set(t, a, m, 9, 2, 4) // set anew, it goes off with them, and was added first
	ticks(t, a, m, 2)
	set(t, a, m, 8, 4, 1)
	for range 30 {
		ticks(t, a, m, 1)
	}
	b, _ := fresh(t)
	b.Set(1, 2, 2)
	b.Set(2, 2, 1)
	b.Set(3, 1, 3)
	for n, want := range [][]int{{3}, {1, 2}, {2}, {3, 1, 2}, {2}} {
		if got := b.Tick(); !slices.Equal(got, want) {
			t.Errorf("tick %d: %v, not %v", n+1, got, want)
		}
	}
}

// P48.2: all 64 go off in one tick, and are all added anew.
func TestAll(t *testing.T) {
	a, m := fresh(t)
	for id := range 64 {
		set(t, a, m, 63-id, 5, 1+id%2)
	}
	ticks(t, a, m, 4)
	for range 8 {
		ticks(t, a, m, 1)
		if a.Len() != 64 || a.Set(64, 1, 1) {
			t.Fatal("there is no room")
		}
	}
}

// P48.2: so many Ticks, at most MaxTicks, of a number below 1 none.
func TestTicksMany(t *testing.T) {
	for _, c := range []struct{ many, gone int }{
		{0, 0}, {1, 1}, {2, 2}, {9, 9}, {4095, 4095}, {4096, 4096}, {4097, 4096}, {5000, 4096}, {65536, 4096}, {1 << 32, 4096}, {math.MaxInt, 4096},
		{-1, 0}, {-2, 0}, {-4096, 0}, {-1 << 32, 0}, {math.MinInt, 0},
	} {
		a, m := fresh(t)
		set(t, a, m, 1, 65536, 0)
		set(t, a, m, 2, 3, 5)
		var want []off
		for n := range c.gone {
			for _, id := range m.tick() {
				want = append(want, off{n + 1, id})
			}
		}
		if got := collect(a.Ticks(c.many), math.MaxInt); !slices.Equal(got, want) {
			t.Errorf("Ticks(%d): %v, not %v", c.many, got, want)
		}
		hold(t, a, m)
	}
}

// P48.2: where nothing goes off, the ticks go by all the same; not before it is gone through.
func TestTicksEmpty(t *testing.T) {
	a, m := fresh(t)
	set(t, a, m, 1, 100, 0)
	l := a.Ticks(7)
	hold(t, a, m)
	for range l {
		t.Error("something goes off")
	}
	for range 7 {
		m.tick()
	}
	hold(t, a, m)
	if len(collect(fromNew(t).Ticks(4096), 9)) != 0 {
		t.Error("something goes off")
	}
}

// fromNew: no alarms.
func fromNew(t *testing.T) *alarm.Alarms {
	a, _ := fresh(t)
	return a
}

// P48.2, rule 8: left anywhere, the Tick at hand has gone by wholly, and none behind it; gone through again, it goes on, and tells ticks from 1 on.
func TestTicksLeft(t *testing.T) {
	for most := range 12 {
		a, m := fresh(t)
		for id := range 3 {
			set(t, a, m, id, 2, 2+id)
		}
		set(t, a, m, 3, 2, 0)
		l := a.Ticks(8)
		for range 3 {
			var want []off
		model:
			for n := range 8 {
				for _, id := range m.tick() {
					if want = append(want, off{n + 1, id}); len(want) > most {
						break model
					}
				}
			}
			if got := collect(l, most); !slices.Equal(got, want[:min(most, len(want))]) {
				t.Fatalf("left behind %d: %v, not %v", most, got, want)
			}
			hold(t, a, m)
		}
	}
}

// P48.2, P1: what goes off in a tick is told, whatever is done meanwhile; what is set then goes off in ticks behind it.
func TestTicksMeanwhile(t *testing.T) {
	a, m := fresh(t)
	for id := range 4 {
		set(t, a, m, id, 2, 3)
	}
	var got, want []off
	for n, id := range a.Ticks(9) {
		got = append(got, off{n, id})
		if n == 2 {
			a.Stop(3 - id)
			a.Set(9, 1, 0)
		}
	}
	for n := range 9 {
		for _, id := range m.tick() {
			want = append(want, off{n + 1, id})
			if n == 1 {
				m.stop(3 - id)
				m.set(9, 1, 0)
			}
		}
	}
	if !slices.Equal(got, want) || !slices.Contains(got, off{2, 3}) {
		t.Errorf("%v, not %v", got, want)
	}
	hold(t, a, m)
	// Ticks within ticks go by between two of the outer ones.
	set(t, a, m, 7, 1, 1)
	got, want = nil, nil
	for n, id := range a.Ticks(3) {
		got = append(got, off{n, id})
		for n, id := range a.Ticks(2) {
			got = append(got, off{10 * n, id})
		}
	}
	for n := range 3 {
		m.tick()
		want = append(want, off{n + 1, 7})
		for n := range 2 {
			m.tick()
			want = append(want, off{10 * (n + 1), 7})
		}
	}
	if !slices.Equal(got, want) {
		t.Errorf("%v, not %v", got, want)
	}
	hold(t, a, m)
}

// P48.3: Count is at most MaxWindow, and begins anew where the alarm is set anew, stopped, or gone.
func TestCount(t *testing.T) {
	a := fromNew(t)
	a.Set(1, 1, 1)
	a.Set(2, 3, 2)
	for n := 1; n <= 65536+200; n++ {
		a.Tick()
		if a.Count(1) != min(n, 65536) || a.Count(2) != max(n-1, 0)/2 {
			t.Fatalf("tick %d: %d, %d", n, a.Count(1), a.Count(2))
		}
	}
	if a.Set(1, 0, 1) || a.Set(1, 1, -1) || a.Count(1) != 65536 {
		t.Error("set, though it may not be", a.Count(1))
	}
	if !a.Set(1, 2, 1) || a.Count(1) != 0 {
		t.Error(a.Count(1))
	}
	a.Tick()
	a.Tick()
	if a.Count(1) != 1 || !a.Stop(1) || a.Count(1) != 0 || a.Count(3) != 0 {
		t.Error(a.Count(1))
	}
	a.Set(1, 1, 0)
	if l := a.Tick(); !slices.Contains(l, 1) || a.Count(1) != 0 {
		t.Error(l, a.Count(1)) // it isn't there any more
	}
}

// Rule 5: what Tick tells is new memory.
func TestMemory(t *testing.T) {
	a, m := fresh(t)
	set(t, a, m, 1, 1, 1)
	set(t, a, m, 2, 1, 1)
	l := a.Tick()
	m.tick()
	clear(l)
	_ = append(l[:1], 7, 7)
	ticks(t, a, m, 3)
}

// P2: two don't meet.
func TestApart(t *testing.T) {
	a, m := fresh(t)
	b, n := fresh(t)
	set(t, a, m, 1, 2, 3)
	set(t, b, n, 1, 4, 1)
	ticks(t, a, m, 5)
	hold(t, b, n)
	ticks(t, b, n, 9)
	hold(t, a, m)
	if !a.Stop(1) || !b.Stop(1) {
		t.Error("Stop")
	}
}

// P48.1 to P48.3: whatever is set, stopped and ticked.
func TestMixture(t *testing.T) {
	for seed := range uint64(40) {
		r := rand.New(rand.NewPCG(48, seed))
		a, m := fresh(t)
		numbers := 1 + r.IntN(100)
		for range 800 {
			id := r.IntN(numbers) - numbers/2
			switch r.IntN(8) {
			case 0, 1, 2, 3:
				every := []int{0, r.IntN(12) - 1, r.IntN(300), r.IntN(70000)}[r.IntN(4)]
				set(t, a, m, id, []int{r.IntN(9), r.IntN(60), r.IntN(70000)}[r.IntN(3)], every)
			case 4:
				if got, want := a.Stop(id), m.stop(id); got != want {
					t.Fatalf("Stop(%d): %v", id, got)
				}
			case 5:
				many, most := r.IntN(20)-2, r.IntN(30)
				var want []off
			model:
				for n := range many {
					for _, id := range m.tick() {
						if want = append(want, off{n + 1, id}); len(want) > most {
							break model
						}
					}
				}
				if got := collect(a.Ticks(many), most); !slices.Equal(got, want[:min(most, len(want))]) {
					t.Fatalf("Ticks(%d), left behind %d: %v, not %v", many, most, got, want)
				}
			default:
				ticks(t, a, m, r.IntN(4))
			}
			hold(t, a, m, id)
		}
	}
}

// The chapter's example.
func TestExample(t *testing.T) {
	a := fromNew(t)
	if !a.Set(1, 2, 3) {
		t.Error("Set")
	}
	if got := collect(a.Ticks(9), 99); !slices.Equal(got, []off{{2, 1}, {5, 1}, {8, 1}}) {
		t.Error(got)
	}
}
