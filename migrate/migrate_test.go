package migrate_test

import (
	"math"
	"math/rand/v2"
	"slices"
	"testing"

	"remontoir/api"
	"remontoir/migrate"
	"remontoir/queue"
)

// seen is all that a queue tells of itself.
type seen struct {
	set     api.Queue
	l       []int
	dropped int
}

// look: what a queue tells of itself.
func look(q *queue.Queue) seen {
	return seen{q.Set(), slices.Collect(q.All()), q.Dropped()}
}

// same: do queues tell the same of themselves?
func same(a, b seen) bool {
	return a.set == b.set && slices.Equal(a.l, b.l) && a.dropped == b.dropped
}

// looks: what queues tell of themselves.
func looks(l []*queue.Queue) []seen {
	var all []seen
	for _, q := range l {
		all = append(all, look(q))
	}
	return all
}

// model: what Move answers: what the new queues tell of themselves, and what was dropped; false: ErrQueue.
func model(old []seen, l []api.Queue, m [4]int) ([]seen, []migrate.Drop, bool) {
	if len(l) > 4 || slices.ContainsFunc(l, func(q api.Queue) bool { return q.Cap < 1 || q.Cap > 16 || q.Policy < 1 || q.Policy > 3 }) {
		return nil, nil, false
	}
	var made []seen
	var drops []migrate.Drop
	gone := make([]int, len(old))
	for i, q := range old {
		gone[i] = len(q.l)
	}
	for n, set := range l {
		q := seen{set: set}
		var from []int
		for i := range old {
			if i < 4 && m[i] == n+1 {
				from = append(from, i)
			}
		}
		if len(from) > 1 {
			return nil, nil, false
		}
		for _, i := range from {
			q.dropped = max(len(old[i].l)-set.Cap, 0)
			q.l = old[i].l[q.dropped:]
			gone[i] = q.dropped
		}
		made = append(made, q)
	}
	for i, n := range gone {
		if n > 0 {
			drops = append(drops, migrate.Drop{Queue: i, Many: n})
		}
	}
	return made, drops, true
}

// hold holds what Move answers against the model, each time the same, and that old queues stay; is it OK?
func hold(t *testing.T, old []*queue.Queue, l []api.Queue, m [4]int) bool {
	t.Helper()
	was, given := looks(old), slices.Clone(l)
	made, drops, right := model(was, l, m)
	for range 2 {
		got, dropped, e := migrate.Move(old, l, m)
		if !right {
			if e != api.ErrQueue || len(got) != 0 || len(dropped) != 0 {
				t.Fatalf("Move(%v, %v, %v): %v, %v, %v", was, l, m, looks(got), dropped, e)
			}
			continue
		}
		if e != api.OK || !slices.EqualFunc(looks(got), made, same) || !slices.Equal(dropped, drops) {
			t.Fatalf("Move(%v, %v, %v): %v, %v, %v, not %v, %v", was, l, m, looks(got), dropped, e, made, drops)
		}
		untold(t, was, got, dropped)
	}
	if !slices.EqualFunc(looks(old), was, same) || !slices.Equal(l, given) {
		t.Fatalf("%v is changed to %v, or %v to %v", was, looks(old), given, l)
	}
	return right
}

// untold holds that all messages of old queues, no two of which are the same, are in the new ones, or are told.
func untold(t *testing.T, old []seen, made []*queue.Queue, drops []migrate.Drop) {
	t.Helper()
	left := map[int]int{} // of how many messages of an old queue nothing is known
	of := map[int]int{}   // of each message its queue
	for i, q := range old {
		left[i] = len(q.l)
		for _, n := range q.l {
			of[n] = i
		}
	}
	for _, q := range made {
		for n := range q.All() {
			i, ok := of[n]
			if !ok {
				t.Fatalf("the message %d comes of nowhere, or twice", n)
			}
			delete(of, n)
			left[i]--
		}
	}
	for _, d := range drops {
		left[d.Queue] -= d.Many
	}
	for i, n := range left {
		if n != 0 {
			t.Fatalf("%d messages of the queue %d are lost untold", n, i)
		}
	}
}

// filled: queues with so much room, and so many messages, no two of which are the same.
func filled(t *testing.T, rooms, many []int) []*queue.Queue {
	t.Helper()
	var l []*queue.Queue
	for i, room := range rooms {
		q, e := queue.New(api.Queue{Cap: room, Policy: api.Policy(1 + i%3)})
		if e != api.OK {
			t.Fatal(e)
		}
		for n := range many[i] {
			q.Send(100*i + n)
		}
		l = append(l, q)
	}
	return l
}

// sets: queues with so much room, of all policies.
func sets(rooms ...int) []api.Queue {
	var l []api.Queue
	for i, room := range rooms {
		l = append(l, api.Queue{Cap: room, Policy: api.Policy(1 + (i+room)%3)})
	}
	return l
}

// P29.1: as many as may be, empty, as they are told; none of none.
func TestMake(t *testing.T) {
	for many := range 5 {
		for room := 1; room <= 16; room++ {
			for policy := api.Refuse; policy <= api.DropNew; policy++ {
				l := slices.Repeat([]api.Queue{{Cap: room, Policy: policy}}, many)
				if many > 0 {
					l[many-1].Cap = 17 - room
				}
				for range 2 {
					made, e := migrate.Make(l)
					if e != api.OK || len(made) != many {
						t.Fatalf("Make(%v): %v, %v", l, looks(made), e)
					}
					for i, q := range made {
						if !same(look(q), seen{set: l[i]}) {
							t.Errorf("Make(%v): %v", l, looks(made))
						}
					}
				}
			}
		}
	}
	if made, e := migrate.Make([]api.Queue{}); len(made) != 0 || e != api.OK {
		t.Error(made, e)
	}
}

// P29.1, P29.2: too many, or one that may not be, wherever it stands; nothing is made then.
func TestMakeErrors(t *testing.T) {
	right := api.Queue{Cap: 1, Policy: api.Refuse}
	var bad [][]api.Queue
	for _, n := range []int{5, 6, 100} {
		bad = append(bad, slices.Repeat([]api.Queue{right}, n))
	}
	for _, n := range []int{0, -1, 17, 1 << 32, 1<<32 + 1, math.MinInt, math.MaxInt} {
		for many := 1; many <= 4; many++ {
			for place := range many {
				l := slices.Repeat([]api.Queue{right}, many)
				l[place].Cap = n
				bad = append(bad, l)
				if n != 17 {
					l = slices.Repeat([]api.Queue{right}, many)
					l[place].Policy = api.Policy(n)
					bad = append(bad, l)
				}
			}
		}
	}
	bad = append(bad, []api.Queue{right, {Cap: 1, Policy: 4}}, []api.Queue{{}})
	for _, l := range bad {
		for range 2 {
			if made, e := migrate.Make(l); len(made) != 0 || e != api.ErrQueue {
				t.Errorf("Make(%v): %v, %v", l, looks(made), e)
			}
		}
		old := filled(t, []int{3, 2}, []int{3, 1})
		if hold(t, old, l, [4]int{1}) || hold(t, nil, l, [4]int{}) {
			t.Errorf("%v may not be", l)
		}
	}
}

// P29.1, rule 5: no two of what is made are the same queue, and lists are new.
func TestMakeMemory(t *testing.T) {
	l := sets(2, 2, 2)
	a, _ := migrate.Make(l)
	b, _ := migrate.Make(l)
	a[0].Send(1)
	a[2].Send(2)
	if a[1].Len()+b[0].Len()+b[1].Len()+b[2].Len() != 0 || a[0].Len() != 1 || a[2].Len() != 1 {
		t.Error(looks(a), looks(b))
	}
	l[1] = api.Queue{}
	if b[1].Set() != sets(2, 2, 2)[1] {
		t.Error("what was handed in is kept")
	}
	// What lies behind the list's length isn't read.
	if made, e := migrate.Make(l[:1]); len(made) != 1 || e != api.OK {
		t.Error(made, e)
	}
}

// P29.2, P29.3: whatever queue becomes whatever queue, of up to six old ones and up to four new ones.
func TestMaps(t *testing.T) {
	right, wrong := 0, 0
	for olds := range 7 {
		old := filled(t, []int{3, 5, 1, 16, 4, 2}[:olds], []int{3, 4, 1, 12, 3, 0}[:olds])
		for news := range 5 {
			l := sets([]int{2, 4, 8, 3}[:news]...)
			for code := range 7 * 7 * 7 * 7 {
				m := [4]int{code%7 - 1, code/7%7 - 1, code/49%7 - 1, code/343 - 1}
				if hold(t, old, l, m) {
					right++
				} else {
					wrong++
				}
			}
		}
	}
	if right < 50000 || wrong < 5000 {
		t.Error(right, wrong)
	}
}

// P29.2: however much room there is, and however many messages; of which policy counts for nothing.
func TestRooms(t *testing.T) {
	for room := 1; room <= 16; room++ {
		for many := range room + 1 {
			for other := 1; other <= 16; other++ {
				for policy := api.Refuse; policy <= api.DropNew; policy++ {
					old := filled(t, []int{room}, []int{many})
					hold(t, old, []api.Queue{{Cap: other, Policy: policy}}, [4]int{1})
				}
			}
		}
	}
}

// P29.2: numbers that are far off become none; those behind the old queues count for nothing.
func TestFar(t *testing.T) {
	old := filled(t, []int{3, 3}, []int{3, 2})
	l := sets(5, 5)
	for _, n := range []int{0, -1, 3, 4, 5, 1 << 32, 1<<32 + 1, math.MinInt, math.MinInt + 1, math.MaxInt, math.MaxInt - 1} {
		for _, m := range [][4]int{{n, n, n, n}, {n, 1, 1, 1}, {2, n, 2, 2}, {1, 2, n, 2}} {
			if !hold(t, old, l, m) {
				t.Errorf("%v", m)
			}
		}
	}
	if _, drops, e := migrate.Move(old, l, [4]int{3, -1, 1, 2}); e != api.OK || !slices.Equal(drops, []migrate.Drop{{Queue: 0, Many: 3}, {Queue: 1, Many: 2}}) {
		t.Error(drops, e)
	}
}

// P29.2: more old queues than a map has places: those behind become none, and are told.
func TestManyOld(t *testing.T) {
	var rooms, many []int
	for i := range 40 {
		rooms = append(rooms, 1+i%16)
		many = append(many, i%(2+i%16))
	}
	old := filled(t, rooms, many)
	hold(t, old, sets(1, 2, 3, 4), [4]int{4, 3, 2, 1})
	hold(t, old, nil, [4]int{1, 1, 1, 1})
	hold(t, old[:5], sets(16, 16), [4]int{0, 0, 0, 1})
	hold(t, nil, sets(16, 16), [4]int{1, 1, 1, 1})
}

// P29.2: of queues that dropped some, and had some taken: what they dropped isn't told again.
func TestUsed(t *testing.T) {
	r := rand.New(rand.NewPCG(29, 1))
	for range 3000 {
		var old []*queue.Queue
		next := 0
		for range r.IntN(6) {
			q, _ := queue.New(api.Queue{Cap: 1 + r.IntN(16), Policy: api.Policy(1 + r.IntN(3))})
			for range r.IntN(40) {
				if r.IntN(3) == 0 {
					q.Take()
				} else {
					q.Send(next)
					next++
				}
			}
			old = append(old, q)
		}
		var l []api.Queue
		for range r.IntN(5) {
			l = append(l, api.Queue{Cap: 1 + r.IntN(16), Policy: api.Policy(1 + r.IntN(3))})
		}
		var m [4]int
		for i, n := range r.Perm(4) {
			m[i] = (n + 1) * (r.IntN(4) + 2) / 5
		}
		hold(t, old, l, m)
	}
}

// P29.2, rule 5: new queues are none of the old ones, and share nothing with them or with those of another call.
func TestMemory(t *testing.T) {
	old := filled(t, []int{3, 3}, []int{3, 2})
	was := looks(old)
	l := sets(3, 3)
	a, drops, _ := migrate.Move(old, l, [4]int{2, 0})
	b, others, _ := migrate.Move(old, l, [4]int{2, 0})
	before := looks(b)
	for _, q := range a {
		q.Take()
		q.Fill(slices.Values([]int{7, 8, 9, 10}))
	}
	drops[0] = migrate.Drop{}
	l[0], l[1] = api.Queue{}, api.Queue{}
	if !slices.EqualFunc(looks(old), was, same) || !slices.EqualFunc(looks(b), before, same) || others[0] != (migrate.Drop{Queue: 1, Many: 2}) {
		t.Error(looks(old), looks(b), others)
	}
	old[0].Take()
	old[0].Send(99)
	if !slices.EqualFunc(looks(b), before, same) {
		t.Error(looks(b))
	}
	// What lies behind the lists' lengths isn't read.
	if made, drops, e := migrate.Move(old[:1], sets(3, 0)[:1], [4]int{1, 1}); len(made) != 1 || len(drops) != 0 || e != api.OK {
		t.Error(made, drops, e)
	}
}

// P2: drops come rising, however often one asks.
func TestRising(t *testing.T) {
	old := filled(t, []int{4, 4, 4, 4, 4}, []int{4, 4, 4, 4, 4})
	want := []migrate.Drop{{Queue: 0, Many: 3}, {Queue: 1, Many: 2}, {Queue: 2, Many: 1}, {Queue: 3, Many: 3}, {Queue: 4, Many: 4}}
	for range 200 {
		if _, drops, e := migrate.Move(old, sets(1, 3, 2, 1), [4]int{4, 3, 2, 1}); e != api.OK || !slices.Equal(drops, want) {
			t.Fatal(drops, e)
		}
	}
}

// The chapter's example.
func TestExample(t *testing.T) {
	old := filled(t, []int{3}, []int{0})
	old[0].Fill(slices.Values([]int{1, 2, 3}))
	made, drops, e := migrate.Move(old, []api.Queue{{Cap: 2, Policy: api.Refuse}}, [4]int{1})
	if e != api.OK || len(made) != 1 || !slices.Equal(slices.Collect(made[0].All()), []int{2, 3}) || !slices.Equal(drops, []migrate.Drop{{Queue: 0, Many: 1}}) {
		t.Error(made, drops, e)
	}
}
