package class_test

import (
	"math"
	"math/rand/v2"
	"testing"

	"remontoir/api"
	"remontoir/class"
	"remontoir/mask"
)

// some are sets of all kinds: the empty one, both ends, mixtures, all.
var some = []mask.Set{0, 1, 2, 3, 6, 7, 1 << 15, 1 << 16, 1 << 31, 1<<31 | 1, 0x0000ffff, 0xffff0000, 0x55555555, 0xaaaaaaaa, 0x80c01235, 1<<32 - 1}

// far are numbers of no task, and of no edge or mode of few.
var far = []int{-1, -2, -31, -32, 32, 33, 63, 64, 1 << 31, 1 << 32, 1<<32 + 1, -1 << 32, math.MinInt32, math.MinInt, math.MinInt + 1, math.MaxInt - 1, math.MaxInt}

// kinds are the kinds' numbers, as the chapter says.
func TestKinds(t *testing.T) {
	if class.Absent != 0 || class.Old != 1 || class.New != 2 || class.Same != 3 {
		t.Error(class.Absent, class.Old, class.New, class.Same)
	}
}

// P14.1: each number is of the kind that the two sets make of it; the sets of all kinds are told of these.
func TestOf(t *testing.T) {
	for _, from := range some {
		for _, to := range some {
			c := class.Of(from, to)
			if again := class.Of(from, to); again != c {
				t.Fatal(c, again)
			}
			if c.From() != from || c.To() != to || c.Both() != from|to {
				t.Errorf("from %x to %x: From %x, To %x, Both %x", from, to, c.From(), c.To(), c.Both())
			}
			for n := range 32 {
				was, is := uint32(from)>>n&1 == 1, uint32(to)>>n&1 == 1
				want := class.Absent
				switch {
				case was && is:
					want = class.Same
				case was:
					want = class.Old
				case is:
					want = class.New
				}
				if got := c.Kind(n); got != want {
					t.Errorf("from %x to %x: %d is of kind %d", from, to, n, got)
				}
				if c.Old.Has(n) != (want == class.Old) || c.New.Has(n) != (want == class.New) || c.Same.Has(n) != (want == class.Same) {
					t.Errorf("from %x to %x, %d: %+v", from, to, n, c)
				}
			}
			for _, n := range far {
				if c.Kind(n) != class.Absent {
					t.Errorf("%d is of kind %d", n, c.Kind(n))
				}
			}
			if c.Back() != class.Of(to, from) || c.Back().Back() != c {
				t.Errorf("Back of %+v: %+v", c, c.Back())
			}
		}
	}
}

// P14.1: of classes that no two sets make the first kind is told; the sets are joined as they are.
func TestRaw(t *testing.T) {
	for _, old := range some {
		for _, fresh := range some {
			for _, same := range some {
				c := class.Classes{Old: old, New: fresh, Same: same}
				for n := range 32 {
					want := class.Absent
					for _, kind := range []struct {
						s mask.Set
						k class.Kind
					}{{same, class.Same}, {fresh, class.New}, {old, class.Old}} {
						if uint32(kind.s)>>n&1 == 1 {
							want = kind.k
						}
					}
					if got := c.Kind(n); got != want {
						t.Fatalf("%+v: %d is of kind %d, not %d", c, n, got, want)
					}
				}
				if c.Both() != old|fresh|same || c.From() != old|same || c.To() != fresh|same || c.Back() != (class.Classes{Old: fresh, New: old, Same: same}) {
					t.Fatalf("%+v: Both %x, From %x, To %x, Back %+v", c, c.Both(), c.From(), c.To(), c.Back())
				}
			}
		}
	}
}

// P14.1: of an edge the tasks of its modes; none of no edge; a mode that isn't there has no tasks.
func TestEdge(t *testing.T) {
	x := api.Image{
		Modes: []api.Mode{{Tasks: 3}, {Tasks: 6}, {Tasks: 1<<31 | 4}, {}},
		Edges: []api.Edge{{From: 0, To: 1}, {From: 1, To: 0}, {From: 1, To: 2}, {From: 3, To: 2}, {From: 2, To: 2}, {From: 0, To: 4}, {From: -1, To: 1}, {From: math.MaxInt, To: math.MinInt}},
	}
	want := []class.Classes{{Old: 1, New: 4, Same: 2}, {Old: 4, New: 1, Same: 2}, {Old: 2, New: 1 << 31, Same: 4}, {New: 1<<31 | 4}, {Same: 1<<31 | 4}, {Old: 3}, {New: 6}, {}}
	for i, c := range want {
		for range 2 {
			if got := class.Edge(x, i); got != c {
				t.Errorf("edge %d: %+v, not %+v", i, got, c)
			}
		}
	}
	for _, i := range append([]int{8, 9}, far...) {
		if got := class.Edge(x, i); got != (class.Classes{}) {
			t.Errorf("edge %d: %+v", i, got)
		}
	}
	if got := class.Edge(api.Image{Modes: x.Modes}, 0); got != (class.Classes{}) {
		t.Error(got)
	}
	// What lies behind the length is no edge.
	if got := class.Edge(api.Image{Modes: x.Modes, Edges: x.Edges[:1]}, 1); got != (class.Classes{}) {
		t.Error(got)
	}
}

// P14.1: whatever the modes have, an edge's classes are those of the modes' sets.
func TestMixture(t *testing.T) {
	r := rand.New(rand.NewPCG(14, 1))
	for range 3000 {
		x := api.Image{Tasks: make([]api.Task, r.IntN(20)), Modes: make([]api.Mode, 1+r.IntN(9)), Edges: make([]api.Edge, r.IntN(30))}
		for m := range x.Modes {
			x.Modes[m].Tasks = r.Uint32() & r.Uint32()
		}
		tasks := func(m int) mask.Set {
			if m < 0 || m >= len(x.Modes) {
				return 0
			}
			return mask.Set(x.Modes[m].Tasks)
		}
		for i := range x.Edges {
			e := api.Edge{From: r.IntN(12) - 1, To: r.IntN(12) - 1}
			x.Edges[i] = e
			if got := class.Edge(x, i); got != class.Of(tasks(e.From), tasks(e.To)) {
				t.Fatalf("%+v: %+v", e, got)
			}
		}
	}
}

// The chapter's example.
func TestExample(t *testing.T) {
	if c := class.Of(mask.Of(0, 1), mask.Of(1, 2)); c != (class.Classes{Old: mask.Of(0), New: mask.Of(2), Same: mask.Of(1)}) {
		t.Error(c)
	}
}
