package ceil_test

import (
	"math"
	"math/rand/v2"
	"testing"

	"remontoir/api"
	"remontoir/ceil"
	"remontoir/mask"
)

// far are numbers of no resource.
var far = []int{-1, -2, -8, 8, 9, 15, 16, 31, 32, 64, 1 << 31, 1 << 32, 1<<32 + 1, -1 << 32, math.MinInt32, math.MinInt, math.MinInt + 1, math.MaxInt - 1, math.MaxInt}

// tables of all kinds: empty, of tasks, raw.
var tables = []ceil.Table{
	{},
	{16, 16, 16, 16, 16, 16, 16, 16},
	{0, 1, 2, 3, 4, 5, 6, 7},
	{15, 14, 13, 12, 11, 10, 9, 8},
	{3, 16, 3, 16, 0, 15, 16, 1},
	{17, -1, 100, math.MinInt, math.MaxInt, 16, 15, 0},
	{-5, -5, -5, 20, 20, 20, 16, 17},
	{math.MaxInt, math.MaxInt, math.MaxInt, math.MaxInt, math.MaxInt, math.MaxInt, math.MaxInt, math.MaxInt},
}

// random: an image of tasks that use resources at random; raw ones are among them.
func random(r *rand.Rand) api.Image {
	x := api.Image{Res: r.IntN(10) - 1, Tasks: make([]api.Task, r.IntN(22))}
	for i := range x.Tasks {
		for res := range 8 {
			if r.IntN(4) == 0 {
				x.Tasks[i].Longest[res] = []int{-1, 1, 2, 5000, math.MinInt, math.MaxInt}[r.IntN(6)]
			}
		}
	}
	return x
}

// ceiling: a resource's, told number by number.
func ceiling(x api.Image, s mask.Set, res int) int {
	for task := range 16 {
		if uint32(s)>>task&1 == 1 && task < len(x.Tasks) && x.Tasks[task].Longest[res] > 0 {
			return task
		}
	}
	return 16
}

// P15.1
func TestEmpty(t *testing.T) {
	if ceil.None != 16 {
		t.Error(ceil.None)
	}
	for range 2 {
		c := ceil.Empty()
		if c != (ceil.Table{16, 16, 16, 16, 16, 16, 16, 16}) {
			t.Error(c)
		}
		c[3] = 0 // a table is a value
	}
}

// P15.1: whatever tasks there are, and whichever of them are in the set.
func TestOf(t *testing.T) {
	r := rand.New(rand.NewPCG(15, 1))
	for range 5000 {
		x := random(r)
		s := mask.Set(r.Uint32() & r.Uint32())
		c := ceil.Of(x, s)
		for res := range 8 {
			if want := ceiling(x, s, res); c[res] != want || c.At(res) != want {
				t.Fatalf("%x of %+v: %v; of %d it is %d", s, x, c, res, want)
			}
		}
		if ceil.Of(x, s) != c {
			t.Fatal("another table")
		}
	}
}

// P15.1: one task that uses one resource, and each number that it may have: from 16 on it counts as none.
func TestOfOne(t *testing.T) {
	for task := range 34 {
		for res := range 8 {
			x := api.Image{Res: 8, Tasks: make([]api.Task, 40)}
			x.Tasks[task].Longest[res] = 1
			want := ceil.Empty()
			if task < 16 {
				want[res] = task
			}
			if c := ceil.Of(x, 1<<32-1); c != want {
				t.Errorf("%d uses %d: %v", task, res, c)
			}
			if c := ceil.Of(x, mask.Set(1<<32-1).Without(task)); c != ceil.Empty() {
				t.Errorf("%d, that isn't in the set, uses %d: %v", task, res, c)
			}
			x.Tasks = x.Tasks[:task] // what lies behind the length isn't read
			if c := ceil.Of(x, 1<<32-1); c != ceil.Empty() {
				t.Errorf("%d, that isn't there, uses %d: %v", task, res, c)
			}
		}
	}
}

// P15.1: only a Longest above 0 is a use; that there are less resources counts for nothing.
func TestOfUses(t *testing.T) {
	for _, n := range []int{math.MinInt, -1, 0, 1, 2, math.MaxInt} {
		x := api.Image{Res: 0, Tasks: make([]api.Task, 2)}
		x.Tasks[0].Longest[7], x.Tasks[1].Longest[7] = n, 3
		want := 1
		if n > 0 {
			want = 0
		}
		if got := ceil.Of(x, 3).At(7); got != want {
			t.Errorf("%d: %d, not %d", n, got, want)
		}
	}
	if ceil.Of(api.Image{}, 1<<32-1) != ceil.Empty() || ceil.Of(api.Image{Tasks: make([]api.Task, 3)}, 7) != ceil.Empty() {
		t.Error("nobody uses any")
	}
}

// P15.1: as it stands in the table; None of no resource.
func TestAt(t *testing.T) {
	for _, c := range tables {
		for res := range 8 {
			if got := c.At(res); got != c[res] {
				t.Errorf("%v.At(%d): %d", c, res, got)
			}
		}
		for _, res := range far {
			if got := c.At(res); got != 16 {
				t.Errorf("%v.At(%d): %d", c, res, got)
			}
		}
	}
}

// P15.2: resource by resource; what is handed in stays.
func TestJoinCovers(t *testing.T) {
	for _, a := range tables {
		for _, b := range tables {
			was, other := a, b
			got, covers, wants := ceil.Join(a, b), a.Covers(b), true
			for res := range 8 {
				want := a[res]
				if b[res] < want {
					want, wants = b[res], false
				}
				if got[res] != want {
					t.Errorf("Join(%v, %v): %v", a, b, got)
				}
			}
			if covers != wants {
				t.Errorf("%v.Covers(%v): %v", a, b, covers)
			}
			if a != was || b != other {
				t.Error("changed")
			}
		}
	}
}

// P15.2: one resource tells, whichever it is.
func TestCoversOne(t *testing.T) {
	for res := range 8 {
		a, b := ceil.Table{5, 5, 5, 5, 5, 5, 5, 5}, ceil.Table{5, 5, 5, 5, 5, 5, 5, 5}
		if !a.Covers(b) {
			t.Error("the same")
		}
		b[res] = 4
		if a.Covers(b) || !b.Covers(a) {
			t.Errorf("the resource %d: %v, %v", res, a.Covers(b), b.Covers(a))
		}
		a[(res+1)%8] = 3 // neither
		if a.Covers(b) || b.Covers(a) {
			t.Errorf("the resource %d, and another one", res)
		}
	}
}

// P15.3: no greater than the task, and below None, also where the task isn't.
func TestOver(t *testing.T) {
	for _, c := range tables {
		for _, task := range append([]int{0, 1, 2, 3, 5, 7, 10, 14, 17, 20, 100}, far...) {
			var want mask.Set
			for res, n := range c {
				if n <= task && n < 16 {
					want |= 1 << res
				}
			}
			if got := c.Over(task); got != want {
				t.Errorf("%v.Over(%d): %x, not %x", c, task, got, want)
			}
		}
	}
}

// P15.3: without a resource the task itself; with one no later than its ceiling; of one that there isn't that is None.
func TestLevel(t *testing.T) {
	for _, c := range tables {
		for _, task := range append([]int{0, 1, 2, 3, 5, 7, 10, 14, 17, 20, 100}, far...) {
			for _, res := range append([]int{0, 1, 2, 3, 4, 5, 6, 7}, far...) {
				want := task
				switch {
				case res >= 8:
					want = min(task, 16)
				case res >= 0:
					want = min(task, c[res])
				}
				if got := c.Level(task, res); got != want {
					t.Errorf("%v.Level(%d, %d): %d, not %d", c, task, res, got, want)
				}
			}
		}
	}
}

// P15.4
func TestFollows(t *testing.T) {
	r := rand.New(rand.NewPCG(15, 4))
	for range 5000 {
		x := random(r)
		a, b := mask.Set(r.Uint32()), mask.Set(r.Uint32()&r.Uint32()&r.Uint32())
		both := ceil.Of(x, a|b)
		if !both.Covers(ceil.Of(x, a)) || !both.Covers(ceil.Of(x, b)) || !ceil.Of(x, a).Covers(ceil.Of(x, a&b)) || !both.Covers(ceil.Empty()) {
			t.Fatalf("%x and %x of %+v: not covered", a, b, x)
		}
		if joined := ceil.Join(ceil.Of(x, a), ceil.Of(x, b)); joined != both {
			t.Fatalf("%x and %x of %+v: %v, not %v", a, b, x, joined, both)
		}
	}
}

// The chapter's example.
func TestExample(t *testing.T) {
	x := api.Image{Res: 1, Tasks: make([]api.Task, 3)}
	x.Tasks[1].Longest[0], x.Tasks[2].Longest[0] = 2, 3
	c := ceil.Of(x, 7)
	if c.At(0) != 1 || c.Level(2, 0) != 1 {
		t.Error(c)
	}
}
