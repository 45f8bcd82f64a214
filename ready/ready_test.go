package ready_test

import (
	"math"
	"math/rand/v2"
	"slices"
	"testing"

	"remontoir/mask"
	"remontoir/ready"
)

// none are numbers that are neither numbers of what may be ready nor levels.
var none = []int{-1, -2, -31, -32, -33, -64, 32, 33, 63, 64, 65, 255, 256, 1 << 31, 1 << 32, 1<<32 + 3, -1 << 32, math.MinInt32, math.MinInt, math.MinInt + 3, math.MaxInt}

type entry struct{ n, level int }

// model is a queue told in another way: at which level each number is.
type model map[int]int

// entries: all of a model, by levels, then by numbers.
func (m model) entries() []entry {
	var l []entry
	for level := range 32 {
		for n := range 32 {
			if at, ok := m[n]; ok && at == level {
				l = append(l, entry{n, level})
			}
		}
	}
	return l
}

// filled: a queue with some entries.
func filled(t *testing.T, l ...entry) *ready.Queue {
	t.Helper()
	q := &ready.Queue{}
	for _, e := range l {
		if !q.Put(e.n, e.level) {
			t.Fatalf("Put(%d, %d)", e.n, e.level)
		}
	}
	return q
}

// all: what All goes through, at most so many.
func all(q *ready.Queue, most int) []entry {
	var l []entry
	for n, level := range q.All() {
		l = append(l, entry{n, level})
		if len(l) >= most {
			break
		}
	}
	return l
}

// hold holds all that a queue answers against a model.
func hold(t *testing.T, q *ready.Queue, m model) {
	t.Helper()
	want := m.entries()
	for range 2 { // P2: asked for again, it is the same
		if got := all(q, 100); !slices.Equal(got, want) {
			t.Fatalf("All: %v, not %v", got, want)
		}
		first, ok := q.First()
		if len(want) == 0 && (first != 0 || ok) || len(want) > 0 && (first != want[0].n || !ok) {
			t.Fatalf("First: %d %v of %v", first, ok, want)
		}
		var set mask.Set
		for _, e := range want {
			set |= 1 << e.n
		}
		if q.Set() != set {
			t.Fatalf("Set: %x, not %x", q.Set(), set)
		}
		for n := -2; n < 35; n++ {
			level, ok := m[n]
			if got, is := q.Level(n); got != level || is != ok {
				t.Fatalf("Level(%d): %d %v, not %d %v", n, got, is, level, ok)
			}
		}
		for _, n := range none {
			if got, is := q.Level(n); got != 0 || is {
				t.Fatalf("Level(%d): %d %v", n, got, is)
			}
		}
	}
}

func TestLevels(t *testing.T) {
	if ready.Levels != 32 {
		t.Error(ready.Levels)
	}
}

// P22.1, P22.2: the zero value has nothing ready.
func TestZero(t *testing.T) {
	q := ready.Queue{}
	hold(t, &q, model{})
	for n := -2; n < 35; n++ {
		if q.Drop(n) {
			t.Errorf("Drop(%d)", n)
		}
	}
	hold(t, &q, model{})
}

// P22.1: each number at each level, and dropped again.
func TestPutDrop(t *testing.T) {
	for n := range 32 {
		for level := range 32 {
			q := filled(t, entry{n, level})
			hold(t, q, model{n: level})
			if !q.Put(n, level) { // once more at the same one
				t.Errorf("Put(%d, %d) again", n, level)
			}
			hold(t, q, model{n: level})
			for other := range 32 {
				if other != n && q.Drop(other) {
					t.Errorf("Drop(%d), where %d is ready", other, n)
				}
			}
			hold(t, q, model{n: level})
			if !q.Drop(n) || q.Drop(n) {
				t.Errorf("Drop(%d) at %d", n, level)
			}
			hold(t, q, model{})
		}
	}
}

// P22.1: it is ready at the last level alone.
func TestPutElsewhere(t *testing.T) {
	for _, levels := range [][]int{{5, 9}, {9, 5}, {0, 31}, {31, 0}, {3, 3}, {31, 0, 17, 0, 31}} {
		q := filled(t, entry{7, 9}, entry{0, 31})
		for _, level := range levels {
			if !q.Put(12, level) {
				t.Errorf("Put(12, %d)", level)
			}
			hold(t, q, model{7: 9, 0: 31, 12: level})
		}
		if !q.Drop(12) || q.Drop(12) {
			t.Error("Drop(12)")
		}
		hold(t, q, model{7: 9, 0: 31})
	}
}

// P22.1, P1, rules 4 and 6: of no number and no level false, and nothing has changed.
func TestNone(t *testing.T) {
	is := model{0: 0, 31: 31, 3: 5, 4: 5}
	q := filled(t, is.entries()...)
	for _, bad := range none {
		for _, other := range slices.Concat([]int{0, 1, 3, 5, 31}, none) {
			if q.Put(bad, other) || q.Put(other, bad) {
				t.Errorf("Put of %d and %d", bad, other)
			}
		}
		if q.Drop(bad) {
			t.Errorf("Drop(%d)", bad)
		}
		hold(t, q, is)
	}
}

// P22.2: the least number of the least level.
func TestFirst(t *testing.T) {
	q := &ready.Queue{}
	for _, c := range []struct{ n, level, first int }{{30, 31, 30}, {31, 31, 30}, {29, 31, 29}, {31, 30, 31}, {31, 2, 31}, {4, 3, 31}, {8, 2, 8}, {9, 2, 8}, {8, 4, 9}, {31, 0, 31}, {0, 0, 0}, {0, 31, 31}} {
		if !q.Put(c.n, c.level) {
			t.Errorf("Put(%d, %d)", c.n, c.level)
		}
		if n, ok := q.First(); n != c.first || !ok {
			t.Errorf("behind Put(%d, %d) First: %d %v, not %d", c.n, c.level, n, ok, c.first)
		}
	}
}

// P22.2: all numbers at once: at one level, each at its own, and the other way round.
func TestFull(t *testing.T) {
	for _, at := range []func(int) int{func(int) int { return 0 }, func(int) int { return 31 }, func(n int) int { return n }, func(n int) int { return 31 - n }, func(n int) int { return n * 5 % 7 }} {
		is := model{}
		q := &ready.Queue{}
		for n := range 32 {
			is[n] = at(n)
			q.Put(n, at(n))
		}
		hold(t, q, is)
		for _, e := range is.entries() { // as they go, one behind the other
			if n, ok := q.First(); n != e.n || !ok || !q.Drop(n) {
				t.Errorf("First: %d %v, not %d", n, ok, e.n)
			}
			delete(is, e.n)
			hold(t, q, is)
		}
	}
}

// P22.1, P22.2: whatever is put and dropped.
func TestMixture(t *testing.T) {
	r := rand.New(rand.NewPCG(22, 1))
	q, is := &ready.Queue{}, model{}
	for range 5000 {
		n, level := r.IntN(34)-1, r.IntN(34)-1
		if r.IntN(2) == 0 {
			_, was := is[n]
			if got := q.Drop(n); got != was {
				t.Fatalf("Drop(%d): %v", n, got)
			}
			delete(is, n)
		} else {
			may := n >= 0 && n < 32 && level >= 0 && level < 32
			if got := q.Put(n, level); got != may {
				t.Fatalf("Put(%d, %d): %v", n, level, got)
			}
			if may {
				is[n] = level
			}
		}
		hold(t, q, is)
	}
}

// P22.2, rule 8: left at any time, gone through again.
func TestAllLeft(t *testing.T) {
	want := []entry{{4, 2}, {9, 2}, {3, 5}, {0, 31}, {31, 31}}
	q := filled(t, entry{31, 31}, entry{3, 5}, entry{0, 31}, entry{9, 2}, entry{4, 2})
	it := q.All()
	for most := 1; most <= len(want)+1; most++ {
		for range 2 {
			var got []entry
			for n, level := range it {
				got = append(got, entry{n, level})
				if len(got) == most {
					break
				}
			}
			if !slices.Equal(got, want[:min(most, len(want))]) {
				t.Errorf("left behind %d: %v", most, got)
			}
		}
	}
	many := 0
	for range it {
		for range it {
			many++
		}
	}
	if many != len(want)*len(want) {
		t.Error(many)
	}
}

// P22.2, rule 8: gone through again, it goes through what is there then.
func TestAllThen(t *testing.T) {
	q := &ready.Queue{}
	it := q.All()
	if it == nil {
		t.Fatal("a nil iterator")
	}
	told := func() []entry {
		var l []entry
		for n, level := range it {
			l = append(l, entry{n, level})
		}
		return l
	}
	if got := told(); len(got) != 0 {
		t.Error(got)
	}
	q.Put(3, 5)
	q.Put(4, 2)
	if got := told(); !slices.Equal(got, []entry{{4, 2}, {3, 5}}) {
		t.Error(got)
	}
	q.Put(4, 6)
	q.Put(1, 0)
	if got := told(); !slices.Equal(got, []entry{{1, 0}, {3, 5}, {4, 6}}) {
		t.Error(got)
	}
	q.Drop(3)
	if got := told(); !slices.Equal(got, []entry{{1, 0}, {4, 6}}) {
		t.Error(got)
	}
}

// P22.2: what is put and dropped meanwhile is done, and each number that was there is met once.
func TestAllMeanwhile(t *testing.T) {
	is := model{0: 0, 1: 0, 2: 1, 30: 29, 31: 30}
	q := filled(t, is.entries()...)
	var got []entry
	for n, level := range q.All() {
		got = append(got, entry{n, level})
		q.Put(n, 31)
		q.Drop(2)
	}
	if !slices.Equal(got, is.entries()) {
		t.Error(got)
	}
	hold(t, q, model{0: 31, 1: 31, 30: 31, 31: 31})
}

// P2: two queues don't meet, and what was copied goes on alone.
func TestApart(t *testing.T) {
	a, b := filled(t, entry{1, 1}), filled(t, entry{2, 2})
	c := *a
	c.Put(5, 0)
	a.Drop(1)
	a.Put(6, 6)
	hold(t, a, model{6: 6})
	hold(t, b, model{2: 2})
	hold(t, &c, model{1: 1, 5: 0})
}

// The chapter's example.
func TestExample(t *testing.T) {
	q := filled(t, entry{3, 5}, entry{4, 2})
	if n, ok := q.First(); n != 4 || !ok {
		t.Error(n, ok)
	}
}
