package queue_test

import (
	"iter"
	"math"
	"math/rand/v2"
	"slices"
	"testing"

	"remontoir/api"
	"remontoir/queue"
)

// policies are those that there are.
var policies = []api.Policy{api.Refuse, api.DropOld, api.DropNew}

// model is a queue told in another way: all that is there in a list that grows.
type model struct {
	set     api.Queue
	l       []int
	dropped int
}

func (m *model) drop() {
	m.dropped++
}

func (m *model) send(n int) api.Errno {
	full := len(m.l) >= m.set.Cap
	if full && m.set.Policy == api.Refuse {
		return api.ErrOver
	}
	if full {
		m.drop()
	}
	if full && m.set.Policy == api.DropNew {
		return api.OK
	}
	m.l = append(m.l, n)
	m.l = m.l[max(len(m.l)-m.set.Cap, 0):]
	return api.OK
}

func (m *model) take() (int, api.Errno) {
	if len(m.l) == 0 {
		return 0, api.ErrEmpty
	}
	n := m.l[0]
	m.l = m.l[1:]
	return n, api.OK
}

func (m *model) fill(l []int) int {
	m.l = slices.Concat(m.l, l)
	went := max(len(m.l)-m.set.Cap, 0)
	m.l = m.l[went:]
	m.dropped += went
	return went
}

// fresh: an empty queue, and its model.
func fresh(t *testing.T, room int, policy api.Policy) (*queue.Queue, *model) {
	t.Helper()
	set := api.Queue{Cap: room, Policy: policy}
	q, e := queue.New(set)
	if q == nil || e != api.OK {
		t.Fatalf("New(%v): %v", set, e)
	}
	return q, &model{set: set}
}

// hold holds all that a queue answers against a model.
func hold(t *testing.T, q *queue.Queue, m *model) {
	t.Helper()
	if q.Set() != m.set || q.Len() != len(m.l) || q.Dropped() != min(m.dropped, 4096) {
		t.Fatalf("%v, Len %d, Dropped %d, not %v, %d, %d", q.Set(), q.Len(), q.Dropped(), m.set, len(m.l), m.dropped)
	}
	for range 2 { // P2, rule 8: gone through again, it is the same
		if got := slices.Collect(q.All()); !slices.Equal(got, m.l) {
			t.Fatalf("All: %v, not %v", got, m.l)
		}
	}
}

// send holds what Send answers against a model.
func send(t *testing.T, q *queue.Queue, m *model, l ...int) {
	t.Helper()
	for _, n := range l {
		if e, want := q.Send(n), m.send(n); e != want {
			t.Fatalf("Send(%d): %v, not %v", n, e, want)
		}
		hold(t, q, m)
	}
}

// take holds what Take answers against a model.
func take(t *testing.T, q *queue.Queue, m *model) {
	t.Helper()
	n, e := q.Take()
	if want, f := m.take(); n != want || e != f {
		t.Fatalf("Take: %d %v, not %d %v", n, e, want, f)
	}
	hold(t, q, m)
}

// fill holds what Fill answers against a model.
func fill(t *testing.T, q *queue.Queue, m *model, l ...int) {
	t.Helper()
	if went, want := q.Fill(slices.Values(l)), m.fill(l); went != want {
		t.Fatalf("Fill: %d, not %d", went, want)
	}
	hold(t, q, m)
}

// row: so many numbers from one on.
func row(from, many int) []int {
	var l []int
	for i := range many {
		l = append(l, from+i)
	}
	return l
}

// P27.1: each bound, one past it, and what is far off, of both.
func TestNew(t *testing.T) {
	far := []int{-1, -2, -16, 64, 256, 257, 1 << 31, 1 << 32, 1<<32 + 1, 1<<32 + 3, -1<<32 + 1, math.MinInt32, math.MinInt, math.MinInt + 1, math.MaxInt}
	caps, kinds := slices.Concat(far, row(0, 20)), slices.Concat(far, row(0, 6))
	for _, room := range caps {
		for _, policy := range kinds {
			set := api.Queue{Cap: room, Policy: api.Policy(policy)}
			want := room >= 1 && room <= 16 && policy >= 1 && policy <= 3
			if queue.Right(set) != want {
				t.Errorf("Right(%v): %v", set, !want)
			}
			q, e := queue.New(set)
			if want && (q == nil || e != api.OK) || !want && (q != nil || e != api.ErrQueue) {
				t.Errorf("New(%v): %v, %v", set, q, e)
			}
			if want {
				hold(t, q, &model{set: set})
			}
		}
	}
}

// P27.2: up to the room all are there; then what the policy says; then, taken, there is room again.
func TestSend(t *testing.T) {
	for room := 1; room <= 16; room++ {
		for _, policy := range policies {
			q, m := fresh(t, room, policy)
			for n := range 3*room + 2 {
				send(t, q, m, n)
			}
			want := 2*room + 2
			if policy == api.Refuse {
				want = 0
			}
			if q.Dropped() != want {
				t.Errorf("%v: %d dropped, not %d", q.Set(), q.Dropped(), want)
			}
			for range room + 2 {
				take(t, q, m)
			}
			send(t, q, m, row(50, room+1)...)
		}
	}
}

// P27.2: what each policy leaves, told outright.
func TestPolicies(t *testing.T) {
	for _, c := range []struct {
		policy  api.Policy
		e       api.Errno
		l       []int
		dropped int
	}{{api.Refuse, api.ErrOver, []int{1, 2, 3}, 0}, {api.DropOld, api.OK, []int{2, 3, 4}, 1}, {api.DropNew, api.OK, []int{1, 2, 3}, 1}} {
		q, _ := fresh(t, 3, c.policy)
		for n := 1; n <= 3; n++ {
			if e := q.Send(n); e != api.OK {
				t.Error(e)
			}
		}
		if e := q.Send(4); e != c.e {
			t.Errorf("%v: %v", c, e)
		}
		hold(t, q, &model{set: q.Set(), l: c.l, dropped: c.dropped})
	}
}

// P27.2, P1: any number is a message, also more than once.
func TestMessages(t *testing.T) {
	l := []int{0, 0, -1, 5, 5, math.MinInt, math.MaxInt, 1 << 32, 0}
	for _, policy := range policies {
		q, m := fresh(t, 9, policy)
		send(t, q, m, l...)
		for range l {
			take(t, q, m)
		}
		fill(t, q, m, l...)
		for range l {
			take(t, q, m)
		}
	}
}

// P27.2, rules 3 and 4: of an empty one ErrEmpty, and 0, though there were messages.
func TestEmpty(t *testing.T) {
	for _, policy := range policies {
		q, m := fresh(t, 2, policy)
		for range 3 {
			take(t, q, m)
		}
		send(t, q, m, 7, 8, 9)
		for range 4 {
			take(t, q, m)
		}
		if n, e := q.Take(); n != 0 || e != api.ErrEmpty {
			t.Error(n, e)
		}
	}
}

// P27.3: at most MaxPeriod are told, however many were dropped.
func TestDropped(t *testing.T) {
	for _, policy := range []api.Policy{api.DropOld, api.DropNew} {
		q, m := fresh(t, 2, policy)
		for n := range 2 + 4094 {
			q.Send(n)
			m.send(n)
		}
		hold(t, q, m)
		for n := range 5 {
			send(t, q, m, n)
		}
		if q.Dropped() != 4096 {
			t.Error(q.Dropped())
		}
		fill(t, q, m, 1, 2, 3)
		take(t, q, m)
	}
	for _, many := range []int{4095, 4096, 4097, 4098, 4099, 10000, 1 << 17} {
		q, m := fresh(t, 2, api.Refuse)
		fill(t, q, m, row(0, many)...)
		fill(t, q, m, 1)
		fill(t, q, m, row(0, many)...)
	}
}

// P27.3: behind what is there, whatever the policy; the oldest ones go, also of what is put in itself.
func TestFill(t *testing.T) {
	for room := 1; room <= 16; room++ {
		for _, policy := range policies {
			for there := range room + 1 {
				for many := range 2*room + 3 {
					q, m := fresh(t, room, policy)
					send(t, q, m, row(100, there)...)
					fill(t, q, m, row(200, many)...)
					fill(t, q, m, row(300, many)...)
					if q.Len() != min(there+2*many, room) {
						t.Fatal(q.Len())
					}
				}
			}
		}
	}
}

// P27.3, rule 1: nil goes through none.
func TestFillNil(t *testing.T) {
	q, m := fresh(t, 2, api.Refuse)
	send(t, q, m, 1, 2)
	if went := q.Fill(nil); went != 0 {
		t.Error(went)
	}
	hold(t, q, m)
	fill(t, q, m)
}

// P27.3, P1: Fill doesn't panic, whatever it is given: what was gone through is in.
func TestFillPanics(t *testing.T) {
	for many := range 8 {
		for _, policy := range policies {
			q, m := fresh(t, 3, policy)
			send(t, q, m, 1, 2)
			went := q.Fill(func(yield func(int) bool) {
				for n := range many {
					yield(n)
				}
				panic("behind some")
			})
			if want := m.fill(row(0, many)); went != want {
				t.Errorf("%d, not %d", went, want)
			}
			hold(t, q, m)
			send(t, q, m, 7, 8)
			take(t, q, m)
		}
	}
	q, m := fresh(t, 1, api.Refuse)
	if went := q.Fill(func(func(int) bool) { panic(nil) }); went != 0 {
		t.Error(went)
	}
	hold(t, q, m)
}

// P27.3: what Fill goes through is never left.
func TestFillWhole(t *testing.T) {
	q, _ := fresh(t, 2, api.Refuse)
	many := 0
	q.Fill(func(yield func(int) bool) {
		for n := range 100 {
			if !yield(n) {
				return
			}
			many++
		}
	})
	if many != 100 {
		t.Error(many)
	}
}

// P27.3, P1: a queue is filled with itself, and with another one, which stays as it is.
func TestFillQueue(t *testing.T) {
	for there := range 6 {
		q, m := fresh(t, 5, api.Refuse)
		o, other := fresh(t, 4, api.DropOld)
		send(t, q, m, row(0, there)...)
		send(t, o, other, row(10, there)...)
		if went, want := q.Fill(o.All()), m.fill(other.l); went != want {
			t.Errorf("%d, not %d", went, want)
		}
		hold(t, q, m)
		hold(t, o, other)
		if went, want := q.Fill(q.All()), m.fill(m.l); went != want {
			t.Errorf("%d, not %d", went, want)
		}
		hold(t, q, m)
	}
}

// P27.3, rule 8: All may be left anywhere; then it goes through what is there then.
func TestAll(t *testing.T) {
	q, m := fresh(t, 16, api.DropOld)
	all := q.All()
	if l := slices.Collect(all); len(l) != 0 {
		t.Error(l)
	}
	for n := range 20 {
		send(t, q, m, n)
		for most := range len(m.l) + 1 {
			if l := some(all, most); !slices.Equal(l, m.l[:most]) {
				t.Errorf("left behind %d: %v, not %v", most, l, m.l[:most])
			}
		}
	}
	take(t, q, m)
	if l := slices.Collect(all); !slices.Equal(l, m.l) {
		t.Errorf("%v, not %v", l, m.l)
	}
}

// some: at most so many of those that are gone through.
func some(all iter.Seq[int], most int) []int {
	var l []int
	for n := range all {
		if len(l) == most {
			break
		}
		l = append(l, n)
	}
	return l
}

// P27.3, P1: whatever is sent and taken meanwhile, All goes through what was there as it began.
func TestAllMeanwhile(t *testing.T) {
	q, m := fresh(t, 4, api.DropOld)
	send(t, q, m, 1, 2, 3, 4)
	var l []int
	for n := range q.All() {
		l = append(l, n)
		take(t, q, m)
		take(t, q, m)
		send(t, q, m, 10+n, 20+n, 30+n)
	}
	if !slices.Equal(l, []int{1, 2, 3, 4}) {
		t.Error(l)
	}
	for range q.All() {
		take(t, q, m)
	}
	if q.Len() != 0 {
		t.Error(q.Len())
	}
}

// P2: two queues don't meet.
func TestApart(t *testing.T) {
	a, m := fresh(t, 2, api.DropOld)
	b, n := fresh(t, 3, api.DropNew)
	send(t, a, m, 1, 2, 3)
	hold(t, b, n)
	send(t, b, n, 4)
	hold(t, a, m)
}

// P27.2 to P27.4: whatever is sent, taken and filled; what is taken comes in the order in which it was sent.
func TestMixture(t *testing.T) {
	for seed := range uint64(60) {
		r := rand.New(rand.NewPCG(27, seed))
		q, m := fresh(t, 1+r.IntN(16), policies[r.IntN(3)])
		last, next := -1, 0
		more := 1 + r.IntN(8) // of nine calls, how many send
		for range 500 {
			switch n := r.IntN(9); {
			case n < more:
				send(t, q, m, next)
				next++
			case r.IntN(20) == 0:
				many := r.IntN(20)
				fill(t, q, m, row(next, many)...)
				next += many
			default:
				n, e := q.Take()
				if want, f := m.take(); n != want || e != f || e == api.OK && n <= last {
					t.Fatalf("Take: %d %v behind %d, not %d %v", n, e, last, want, f)
				}
				if e == api.OK {
					last = n
				}
				hold(t, q, m)
			}
		}
	}
}

// The chapter's example.
func TestExample(t *testing.T) {
	q, _ := fresh(t, 2, api.DropOld)
	for n := 1; n <= 3; n++ {
		q.Send(n)
	}
	if n, e := q.Take(); n != 2 || e != api.OK {
		t.Error(n, e)
	}
}
