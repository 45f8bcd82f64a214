package graph_test

import (
	"iter"
	"math"
	"math/rand/v2"
	"slices"
	"testing"

	"remontoir/api"
	"remontoir/graph"
	"remontoir/image"
	"remontoir/mask"
)

// far are numbers of no mode.
var far = []int{-1, -2, -32, 8, 9, 31, 32, 33, 64, 1 << 31, 1 << 32, 1<<32 + 1, -1 << 32, math.MinInt32, math.MinInt, math.MinInt + 1, math.MaxInt - 1, math.MaxInt}

// of: an image of so many modes, and edges from and to these.
func of(many int, edges ...[2]int) api.Image {
	x := api.Image{Tasks: []api.Task{{Period: 1, Deadline: 1, Cost: 1}}, Modes: make([]api.Mode, many)}
	for _, e := range edges {
		x.Edges = append(x.Edges, api.Edge{From: e[0], To: e[1], Protocol: api.Idle})
	}
	return x
}

// ways: all ways that edges may go between so many modes.
func ways(many int) [][2]int {
	var l [][2]int
	for from := range many {
		for to := range many {
			if from != to {
				l = append(l, [2]int{from, to})
			}
		}
	}
	return l
}

// random: an image that may be, with edges at random, as they come.
func random(t *testing.T, r *rand.Rand) api.Image {
	many := 1 + r.IntN(8)
	l := ways(many)
	r.Shuffle(len(l), func(i, n int) { l[i], l[n] = l[n], l[i] })
	x := of(many, l[:r.IntN(min(len(l), 24)+1)]...)
	if at, e := image.Check(x); e != api.OK {
		t.Fatal(at, e)
	}
	return x
}

// pairs: at most so many of what is gone through.
func pairs(all iter.Seq2[int, int], most int) [][2]int {
	var l [][2]int
	for a, b := range all {
		if len(l) == most {
			break
		}
		l = append(l, [2]int{a, b})
	}
	return l
}

// some: at most so many of what is gone through.
func some(all iter.Seq[int], most int) []int {
	var l []int
	for n := range all {
		if len(l) == most {
			break
		}
		l = append(l, n)
	}
	return l
}

// isNext holds what Next goes through, left anywhere, gone through again.
func isNext(t *testing.T, x api.Image, mode int, want [][2]int) {
	t.Helper()
	all := graph.Next(x, mode)
	for most := len(want) + 1; most >= 0; most-- {
		if got := pairs(all, most); !slices.Equal(got, want[:min(most, len(want))]) {
			t.Errorf("Next(%+v, %d), left behind %d: %v, not %v", x.Edges, mode, most, got, want)
		}
	}
}

// isDead holds what Dead goes through, likewise.
func isDead(t *testing.T, x api.Image, want []int) {
	t.Helper()
	all := graph.Dead(x)
	for most := len(want) + 1; most >= 0; most-- {
		if got := some(all, most); !slices.Equal(got, want[:min(most, len(want))]) {
			t.Errorf("Dead(%d modes, %+v), left behind %d: %v, not %v", len(x.Modes), x.Edges, most, got, want)
		}
	}
}

// isPath holds what Path answers, each time the same.
func isPath(t *testing.T, x api.Image, from, to int, want []int, ok bool) {
	t.Helper()
	for range 2 {
		if got, is := graph.Path(x, from, to); !slices.Equal(got, want) || is != ok {
			t.Errorf("Path(%d modes, %+v, %d, %d): %v, %v, not %v, %v", len(x.Modes), x.Edges, from, to, got, is, want, ok)
		}
	}
}

// closed: which modes can be reached from which, told by joining ways through each mode.
func closed(x api.Image) [8]mask.Set {
	var reach [8]mask.Set
	for mode := range x.Modes {
		reach[mode] = 1 << mode
	}
	for _, e := range x.Edges {
		reach[e.From] |= 1 << e.To
	}
	for through := range x.Modes {
		for from := range x.Modes {
			if reach[from]>>through&1 == 1 {
				reach[from] |= reach[through]
			}
		}
	}
	return reach
}

// walk: the first way of so many edges, if at each mode one tries edge by edge as they stand. Each mode that is met earlier is met by a way that is tried earlier: so this is the one that the chapter means, if there is no shorter one.
func walk(x api.Image, from, to, edges int) []int {
	if edges == 0 {
		if from == to {
			return []int{to}
		}
		return nil
	}
	for _, e := range x.Edges {
		if e.From != from {
			continue
		}
		if rest := walk(x, e.To, to, edges-1); rest != nil {
			return append([]int{from}, rest...)
		}
	}
	return nil
}

// holdAll holds all that is told of an image that may be.
func holdAll(t *testing.T, x api.Image) {
	t.Helper()
	given := image.Copy(x)
	reach, round := closed(x), true
	var dead []int
	for from := range x.Modes {
		var next [][2]int
		for i, e := range x.Edges {
			if e.From == from {
				next = append(next, [2]int{e.To, i})
			}
		}
		isNext(t, x, from, next)
		if len(next) == 0 {
			dead = append(dead, from)
		}
		if got := graph.Reach(x, from); got != reach[from] {
			t.Errorf("Reach(%+v, %d): %x, not %x", x.Edges, from, got, reach[from])
		}
		round = round && reach[from] == 1<<len(x.Modes)-1
		for to := range x.Modes {
			var want []int
			for edges := 0; want == nil && edges < len(x.Modes) && reach[from].Has(to); edges++ {
				want = walk(x, from, to, edges)
			}
			isPath(t, x, from, to, want, reach[from].Has(to))
		}
	}
	isDead(t, x, dead)
	if got := graph.Round(x); got != round || graph.Round(x) != got {
		t.Errorf("Round(%d modes, %+v): %v", len(x.Modes), x.Edges, got)
	}
	if !image.Same(x, given) {
		t.Errorf("%+v is changed to %+v", given, x)
	}
}

// P13.1 to P13.3: all edges that three modes may have, in each of two orders.
func TestThreeModes(t *testing.T) {
	l := ways(3)
	for code := range 1 << len(l) {
		var edges [][2]int
		for i, w := range l {
			if code>>i&1 == 1 {
				edges = append(edges, w)
			}
		}
		holdAll(t, of(3, edges...))
		slices.Reverse(edges)
		holdAll(t, of(3, edges...))
	}
}

// P13.1 to P13.3: whatever edges there are.
func TestMixture(t *testing.T) {
	r := rand.New(rand.NewPCG(13, 1))
	rounds := 0
	for range 4000 {
		x := random(t, r)
		holdAll(t, x)
		if graph.Round(x) {
			rounds++
		}
	}
	if rounds < 100 || rounds > 3900 {
		t.Errorf("%d are round", rounds)
	}
}

// P13.1 to P13.3: one mode; eight in a row, and in a ring, with as many edges as may be.
func TestBounds(t *testing.T) {
	holdAll(t, of(1))
	if !graph.Round(of(1)) || graph.Round(of(2)) {
		t.Error("Round of one mode, and of two")
	}
	var row [][2]int
	for mode := range 7 {
		row = append(row, [2]int{mode, mode + 1})
	}
	x := of(8, row...)
	holdAll(t, x)
	isPath(t, x, 0, 7, []int{0, 1, 2, 3, 4, 5, 6, 7}, true)
	isPath(t, x, 7, 0, nil, false)
	isDead(t, x, []int{7})
	ring := of(8, append(row, [2]int{7, 0})...)
	holdAll(t, ring)
	isPath(t, ring, 3, 2, []int{3, 4, 5, 6, 7, 0, 1, 2}, true)
	isDead(t, ring, nil)
	if !graph.Round(ring) || graph.Round(x) || graph.Reach(ring, 5) != 0xff || graph.Reach(x, 5) != 0xe0 {
		t.Error("a ring, and a row")
	}
	full := of(8, ways(8)[:24]...)
	holdAll(t, full)
	isDead(t, full, []int{4, 5, 6, 7})
}

// P13.2: of ways of the same many edges the one by modes that were met first: where the first edges tell, and where later ones do.
func TestPathOfSeveral(t *testing.T) {
	isPath(t, of(4, [][2]int{{0, 2}, {0, 1}, {1, 3}, {2, 3}}...), 0, 3, []int{0, 2, 3}, true)
	isPath(t, of(4, [][2]int{{0, 1}, {0, 2}, {2, 3}, {1, 3}}...), 0, 3, []int{0, 1, 3}, true)
	isPath(t, of(4, [][2]int{{2, 3}, {1, 3}, {0, 2}, {0, 1}}...), 0, 3, []int{0, 2, 3}, true)
	// Mode 2 is met ahead of 1, so 5 is come to from 4, though the edge from 3 stands first.
	isPath(t, of(6, [][2]int{{3, 5}, {1, 3}, {0, 2}, {0, 1}, {4, 5}, {2, 4}}...), 0, 5, []int{0, 2, 4, 5}, true)
	// A shorter way goes ahead of those by edges that stand first.
	isPath(t, of(4, [][2]int{{0, 1}, {1, 2}, {2, 3}, {1, 3}, {0, 3}}...), 0, 3, []int{0, 3}, true)
	isPath(t, of(4, [][2]int{{0, 1}, {1, 2}, {2, 3}, {0, 2}}...), 0, 3, []int{0, 2, 3}, true)
	// To a mode itself no edge is gone.
	isPath(t, of(2, [][2]int{{0, 1}, {1, 0}}...), 1, 1, []int{1}, true)
}

// P13.1, P13.2: there is no such mode.
func TestNoMode(t *testing.T) {
	x := of(8, append(ways(8)[:20], [2]int{7, 0})...)
	for _, n := range far {
		isNext(t, x, n, nil)
		if got := graph.Reach(x, n); got != 0 {
			t.Errorf("Reach of %d: %x", n, got)
		}
		isPath(t, x, n, 0, nil, false)
		isPath(t, x, 0, n, nil, false)
		isPath(t, x, n, n, nil, false)
	}
	// What lies behind the length is no mode, and no edge.
	y := of(3, [][2]int{{0, 1}, {1, 0}, {1, 2}}...)
	y.Modes, y.Edges = y.Modes[:2], y.Edges[:2]
	if graph.Reach(y, 2) != 0 || graph.Reach(y, 0) != 3 || !graph.Round(y) {
		t.Error("read behind the length")
	}
	isNext(t, y, 1, [][2]int{{0, 1}})
	isDead(t, y, nil)
}

// P1: whatever an image has, nothing panics, and all ends.
func TestRaw(t *testing.T) {
	r := rand.New(rand.NewPCG(13, 2))
	numbers := append([]int{0, 1, 2, 3, 4, 5, 6, 7}, far...)
	for range 2000 {
		x := api.Image{Modes: make([]api.Mode, r.IntN(40))}
		for range r.IntN(60) {
			x.Edges = append(x.Edges, api.Edge{From: numbers[r.IntN(len(numbers))], To: numbers[r.IntN(len(numbers))]})
		}
		for _, mode := range numbers {
			pairs(graph.Next(x, mode), 100)
			graph.Reach(x, mode)
			for _, to := range numbers {
				way, ok := graph.Path(x, mode, to)
				if ok != (len(way) > 0) || len(way) > len(x.Edges)+1 {
					t.Fatalf("Path(%+v, %d, %d): %v, %v", x, mode, to, way, ok)
				}
			}
		}
		graph.Round(x)
		some(graph.Dead(x), 100)
	}
}

// Rules 5 and 8: what is gone through is what was handed in then, whatever becomes of it; no iterator is nil.
func TestKept(t *testing.T) {
	x := of(4, [][2]int{{0, 1}, {1, 2}, {0, 2}}...)
	next, dead := graph.Next(x, 0), graph.Dead(x)
	for range 2 {
		if got := pairs(next, 9); !slices.Equal(got, [][2]int{{1, 0}, {2, 2}}) {
			t.Error(got)
		}
		if got := some(dead, 9); !slices.Equal(got, []int{2, 3}) {
			t.Error(got)
		}
		for i := range x.Edges {
			x.Edges[i] = api.Edge{From: 3, To: 0}
		}
	}
	if graph.Next(api.Image{}, 0) == nil || graph.Dead(api.Image{}) == nil {
		t.Error("a nil iterator")
	}
	isNext(t, api.Image{}, 0, nil)
	isDead(t, api.Image{}, nil)
}

// Rule 8: two that go through one iterator at once don't meet.
func TestNested(t *testing.T) {
	x := of(4, [][2]int{{0, 1}, {0, 2}}...)
	next, dead := graph.Next(x, 0), graph.Dead(x)
	var got []int
	for a := range next {
		for b := range next {
			got = append(got, 10*a+b)
		}
	}
	for a := range dead {
		for b := range dead {
			got = append(got, 10*a+b)
		}
	}
	if !slices.Equal(got, []int{11, 12, 21, 22, 11, 12, 13, 21, 22, 23, 31, 32, 33}) {
		t.Error(got)
	}
}

// Rule 5: what is answered is new memory.
func TestMemory(t *testing.T) {
	x := of(3, [][2]int{{0, 1}, {1, 2}}...)
	a, _ := graph.Path(x, 0, 2)
	a[0], a[1], a[2] = 7, 7, 7
	isPath(t, x, 0, 2, []int{0, 1, 2}, true)
}

// The chapter's example.
func TestExample(t *testing.T) {
	x := api.Image{Modes: make([]api.Mode, 3), Edges: []api.Edge{{From: 0, To: 1}, {From: 1, To: 2}, {From: 0, To: 2}}}
	isPath(t, x, 0, 2, []int{0, 2}, true)
	if graph.Reach(x, 0) != 7 || graph.Reach(x, 1) != 6 || graph.Reach(x, 2) != 4 || graph.Round(x) {
		t.Error("Reach, Round")
	}
	isDead(t, x, []int{2})
}
