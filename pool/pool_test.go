package pool_test

import (
	"math"
	"math/rand/v2"
	"slices"
	"testing"

	"remontoir/api"
	"remontoir/pool"
)

// none are numbers of no block.
var none = []int{-1, -2, -31, -32, -33, 32, 33, 63, 64, 1 << 31, 1 << 32, 1<<32 + 1, -1 << 32, math.MinInt32, math.MinInt, math.MinInt + 1, math.MaxInt}

// model is a pool told in another way: of each block all that was given out, and what is out.
type model struct {
	times []int
	out   map[int]int // which time each block is given out
	low   int
}

func (m *model) free() int {
	return len(m.times) - len(m.out)
}

func (m *model) get() (pool.Ref, api.Errno) {
	for block := range m.times {
		if _, ok := m.out[block]; !ok {
			m.times[block]++
			m.out[block] = m.times[block]
			m.low = min(m.low, m.free())
			return pool.Ref{Block: block, Gen: m.times[block]}, api.OK
		}
	}
	return pool.Ref{}, api.ErrEmpty
}

func (m *model) good(r pool.Ref) bool {
	gen, ok := m.out[r.Block]
	return ok && gen == r.Gen
}

func (m *model) put(r pool.Ref) api.Errno {
	if !m.good(r) {
		return api.ErrOrder
	}
	delete(m.out, r.Block)
	return api.OK
}

// refs: all that is out, by blocks.
func (m *model) refs() []pool.Ref {
	var l []pool.Ref
	for block := range m.times {
		if gen, ok := m.out[block]; ok {
			l = append(l, pool.Ref{Block: block, Gen: gen})
		}
	}
	return l
}

// fresh: a pool of so many blocks, and its model.
func fresh(t *testing.T, many int) (*pool.Pool, *model) {
	t.Helper()
	p, e := pool.New(many)
	if p == nil || e != api.OK {
		t.Fatalf("New(%d): %v", many, e)
	}
	return p, &model{times: make([]int, many), out: map[int]int{}, low: many}
}

// hold holds all that a pool answers against a model.
func hold(t *testing.T, p *pool.Pool, m *model) {
	t.Helper()
	if p.Free() != m.free() || p.Low() != m.low {
		t.Fatalf("Free %d, Low %d, not %d, %d", p.Free(), p.Low(), m.free(), m.low)
	}
	for range 2 { // P2, rule 8: gone through again, it is the same
		if got, want := slices.Collect(p.Out()), m.refs(); !slices.Equal(got, want) {
			t.Fatalf("Out: %v, not %v", got, want)
		}
	}
	for block := -2; block < 35; block++ {
		gen := 0
		if block >= 0 && block < len(m.times) {
			gen = m.times[block]
		}
		for _, g := range []int{gen - 1, gen, gen + 1, 0, 1, -1} {
			r := pool.Ref{Block: block, Gen: g}
			if got, want := p.Good(r), m.good(r); got != want {
				t.Fatalf("Good(%v): %v, not %v", r, got, want)
			}
		}
	}
}

// get holds what Get answers against a model.
func get(t *testing.T, p *pool.Pool, m *model) pool.Ref {
	t.Helper()
	r, e := p.Get()
	if want, f := m.get(); r != want || e != f {
		t.Fatalf("Get: %v %v, not %v %v", r, e, want, f)
	}
	hold(t, p, m)
	return r
}

// put holds what Put answers against a model.
func put(t *testing.T, p *pool.Pool, m *model, r pool.Ref) {
	t.Helper()
	if e, want := p.Put(r), m.put(r); e != want {
		t.Fatalf("Put(%v): %v, not %v", r, e, want)
	}
	hold(t, p, m)
}

// P50.1: each bound, one past it, and what is far off.
func TestNew(t *testing.T) {
	if pool.Most != 32 {
		t.Error(pool.Most)
	}
	for many := 1; many <= 32; many++ {
		p, m := fresh(t, many)
		hold(t, p, m)
	}
	for _, bad := range []int{0, -1, -2, -32, 33, 34, 64, 1024, 1 << 32, 1<<32 + 1, -1<<32 + 1, math.MinInt, math.MaxInt, math.MinInt32} {
		if p, e := pool.New(bad); p != nil || e != api.ErrSize {
			t.Errorf("New(%d): %v, %v", bad, p, e)
		}
	}
}

// P50.1: all blocks are given out, from 0 on; then none; then the least that came back.
func TestGet(t *testing.T) {
	for many := 1; many <= 32; many++ {
		p, m := fresh(t, many)
		var all []pool.Ref
		for i := range many {
			r := get(t, p, m)
			if r != (pool.Ref{Block: i, Gen: 1}) {
				t.Fatalf("of %d, the time %d: %v", many, i, r)
			}
			all = append(all, r)
		}
		for range 3 {
			if r, e := p.Get(); r != (pool.Ref{}) || e != api.ErrEmpty {
				t.Fatalf("of %d: %v, %v", many, r, e)
			}
			hold(t, p, m)
		}
		for _, r := range slices.Backward(all) {
			put(t, p, m, r)
			if again := get(t, p, m); again != (pool.Ref{Block: r.Block, Gen: 2}) {
				t.Fatalf("of %d: %v behind %v", many, again, r)
			}
		}
	}
}

// P50.1: the least free block goes first, wherever others are out.
func TestLeast(t *testing.T) {
	p, m := fresh(t, 5)
	var all []pool.Ref
	for range 5 {
		all = append(all, get(t, p, m))
	}
	for _, block := range []int{4, 1, 3} {
		put(t, p, m, all[block])
	}
	for _, want := range []pool.Ref{{Block: 1, Gen: 2}, {Block: 3, Gen: 2}, {Block: 4, Gen: 2}} {
		if r := get(t, p, m); r != want {
			t.Errorf("%v, not %v", r, want)
		}
	}
}

// P50.1, rules 4 and 6: what isn't given out so isn't good, can't be put, and nothing changes.
func TestNotGood(t *testing.T) {
	p, m := fresh(t, 4)
	a := get(t, p, m)
	b := get(t, p, m)
	put(t, p, m, a)
	bad := []pool.Ref{a, {}, {Block: 0, Gen: 2}, {Block: 1}, {Block: 1, Gen: 2}, {Block: 1, Gen: -1}, {Block: 1, Gen: math.MaxInt}, {Block: 1, Gen: 1<<32 + 1}, {Block: 2}, {Block: 2, Gen: 1}, {Block: 3, Gen: 1}, {Block: 4}, {Block: 4, Gen: 1}}
	for _, block := range none {
		for _, gen := range []int{0, 1, -1, math.MinInt, math.MaxInt} {
			bad = append(bad, pool.Ref{Block: block, Gen: gen})
		}
	}
	for _, r := range bad {
		if p.Good(r) || p.Put(r) != api.ErrOrder {
			t.Errorf("%v is good", r)
		}
		hold(t, p, m)
	}
	if !p.Good(b) || p.Put(b) != api.OK {
		t.Errorf("%v isn't good", b)
	}
}

// P50.2: Low is the fewest of all times, not of now.
func TestLow(t *testing.T) {
	p, m := fresh(t, 3)
	a := get(t, p, m)
	b := get(t, p, m)
	put(t, p, m, a)
	put(t, p, m, b)
	get(t, p, m)
	if p.Low() != 1 || p.Free() != 2 {
		t.Error(p.Low(), p.Free())
	}
	get(t, p, m)
	get(t, p, m)
	if p.Low() != 0 || p.Free() != 0 {
		t.Error(p.Low(), p.Free())
	}
}

// P50.2, rule 8: Out may be left anywhere; then it goes through what is there then.
func TestOut(t *testing.T) {
	p, m := fresh(t, 32)
	out := p.Out()
	if l := slices.Collect(out); len(l) != 0 {
		t.Error(l)
	}
	for range 32 {
		get(t, p, m)
	}
	for _, block := range []int{0, 7, 8, 31} {
		put(t, p, m, pool.Ref{Block: block, Gen: 1})
	}
	want := m.refs()
	for most := range len(want) + 1 {
		var l []pool.Ref
		for r := range out {
			if len(l) == most {
				break
			}
			l = append(l, r)
		}
		if !slices.Equal(l, want[:most]) {
			t.Errorf("left behind %d: %v, not %v", most, l, want[:most])
		}
	}
	get(t, p, m)
	if l := slices.Collect(out); !slices.Equal(l, m.refs()) {
		t.Errorf("%v, not %v", l, m.refs())
	}
}

// P50.2, P1: whatever is put and got meanwhile, Out goes through what was out as it began.
func TestOutMeanwhile(t *testing.T) {
	p, m := fresh(t, 6)
	for range 5 {
		get(t, p, m)
	}
	want := m.refs()
	var l []pool.Ref
	for r := range p.Out() {
		l = append(l, r)
		for _, other := range []int{5 - r.Block, r.Block} { // one that is met yet or was met, and itself
			put(t, p, m, pool.Ref{Block: other, Gen: m.times[other]})
		}
		get(t, p, m)
		get(t, p, m)
	}
	if !slices.Equal(l, want) {
		t.Errorf("%v, not %v", l, want)
	}
	p, m = fresh(t, 32)
	for range 32 {
		get(t, p, m)
	}
	for r := range p.Out() {
		put(t, p, m, r)
	}
	if p.Free() != 32 || p.Low() != 0 {
		t.Error(p.Free(), p.Low())
	}
}

// P2: two pools don't meet.
func TestApart(t *testing.T) {
	a, m := fresh(t, 2)
	b, n := fresh(t, 2)
	get(t, a, m)
	r := get(t, a, m)
	hold(t, b, n)
	if b.Good(r) || b.Put(r) != api.ErrOrder || !a.Good(r) {
		t.Error(r)
	}
}

// P50.1 to P50.3: whatever is got and put, what was given back is never good again.
func TestMixture(t *testing.T) {
	for seed := range uint64(40) {
		r := rand.New(rand.NewPCG(50, seed))
		p, m := fresh(t, 1+r.IntN(32))
		var given, back []pool.Ref
		more := 1 + r.IntN(4) // of five calls, how many get
		for range 400 {
			if r.IntN(5) < more {
				if ref := get(t, p, m); ref != (pool.Ref{}) {
					given = append(given, ref)
				}
			} else if len(given) > 0 {
				ref := given[r.IntN(len(given))]
				if m.good(ref) {
					back = append(back, ref)
				}
				put(t, p, m, ref)
			}
			for _, ref := range back {
				if p.Good(ref) {
					t.Fatalf("%v is good again", ref)
				}
			}
		}
	}
}

// The chapter's example.
func TestExample(t *testing.T) {
	p, _ := fresh(t, 2)
	r, e := p.Get()
	if r != (pool.Ref{Block: 0, Gen: 1}) || e != api.OK {
		t.Error(r, e)
	}
	if a, b := p.Put(r), p.Put(r); a != api.OK || b != api.ErrOrder {
		t.Error(a, b)
	}
}
