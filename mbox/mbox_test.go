package mbox_test

import (
	"iter"
	"math"
	"math/rand/v2"
	"slices"
	"testing"

	"remontoir/api"
	"remontoir/mbox"
)

// none are numbers of no degree.
var none = []int{-1, -2, -31, -32, -33, 32, 33, 63, 64, 1 << 31, 1 << 32, 1<<32 + 1, -1 << 32, math.MinInt32, math.MinInt, math.MinInt + 1, math.MaxInt}

// model is a box told in another way: one list, as it would be taken.
type model struct {
	room int
	l    []mbox.Note
}

func (m *model) send(n mbox.Note) (bool, api.Errno) {
	if n.Degree < 0 || n.Degree > 31 {
		return false, api.ErrQueue
	}
	full := len(m.l) == m.room
	if full && m.l[len(m.l)-1].Degree <= n.Degree {
		return false, api.ErrOver
	}
	if full {
		m.l = m.l[:len(m.l)-1]
	}
	at := 0
	for at < len(m.l) && m.l[at].Degree <= n.Degree {
		at++
	}
	m.l = slices.Concat(m.l[:at], []mbox.Note{n}, m.l[at:])
	return full, api.OK
}

func (m *model) take() (mbox.Note, api.Errno) {
	if len(m.l) == 0 {
		return mbox.Note{}, api.ErrEmpty
	}
	n := m.l[0]
	m.l = m.l[1:]
	return n, api.OK
}

// words: those of a degree.
func (m *model) words(degree int) []int {
	var l []int
	for _, n := range m.l {
		if n.Degree == degree {
			l = append(l, n.Word)
		}
	}
	return l
}

// fresh: an empty box, and its model.
func fresh(t *testing.T, room int) (*mbox.Box, *model) {
	t.Helper()
	b, e := mbox.New(room)
	if b == nil || e != api.OK {
		t.Fatalf("New(%d): %v", room, e)
	}
	return b, &model{room: room}
}

// hold holds all that a box answers against a model.
func hold(t *testing.T, b *mbox.Box, m *model) {
	t.Helper()
	if b.Len() != len(m.l) {
		t.Fatalf("Len: %d, not %d", b.Len(), len(m.l))
	}
	for range 2 { // P2, rule 8: gone through again, it is the same
		if got := slices.Collect(b.All()); !slices.Equal(got, m.l) {
			t.Fatalf("All: %v, not %v", got, m.l)
		}
		for degree := -2; degree < 35; degree++ {
			if got, want := slices.Collect(b.Of(degree)), m.words(degree); !slices.Equal(got, want) {
				t.Fatalf("Of(%d): %v, not %v", degree, got, want)
			}
		}
	}
}

// send holds what Send answers against a model.
func send(t *testing.T, b *mbox.Box, m *model, l ...mbox.Note) {
	t.Helper()
	for _, n := range l {
		went, e := b.Send(n)
		if want, f := m.send(n); went != want || e != f {
			t.Fatalf("Send(%v): %v %v, not %v %v", n, went, e, want, f)
		}
		hold(t, b, m)
	}
}

// take holds what Take answers against a model.
func take(t *testing.T, b *mbox.Box, m *model) {
	t.Helper()
	n, e := b.Take()
	if want, f := m.take(); n != want || e != f {
		t.Fatalf("Take: %v %v, not %v %v", n, e, want, f)
	}
	hold(t, b, m)
}

// P51.1: each bound, one past it, and what is far off.
func TestNew(t *testing.T) {
	if mbox.Most != 32 {
		t.Error(mbox.Most)
	}
	for _, room := range []int{1, 2, 3, 31, 32, 33, 4096, 65535, 65536} {
		b, m := fresh(t, room)
		hold(t, b, m)
		take(t, b, m)
		send(t, b, m, mbox.Note{Degree: 3, Word: 4})
	}
	for _, bad := range []int{0, -1, -2, 65537, 65538, 1 << 17, 1 << 31, 1 << 32, 1<<32 + 1, -1<<32 + 1, math.MinInt32, math.MinInt, math.MinInt + 1, math.MaxInt} {
		if b, e := mbox.New(bad); b != nil || e != api.ErrSize {
			t.Errorf("New(%d): %v, %v", bad, b, e)
		}
	}
}

// P51.1: there is room for just so many, also for the most that there may be.
func TestRoom(t *testing.T) {
	for _, room := range []int{1, 2, 31, 32, 33, 100, 65535, 65536} {
		b, _ := fresh(t, room)
		for i := range room {
			if went, e := b.Send(mbox.Note{Degree: 1 + i%31, Word: i}); went || e != api.OK || b.Len() != i+1 {
				t.Fatalf("room %d, the message %d: %v %v, Len %d", room, i, went, e, b.Len())
			}
		}
		if went, e := b.Send(mbox.Note{Degree: 31}); went || e != api.ErrOver || b.Len() != room {
			t.Errorf("room %d: %v %v, Len %d", room, went, e, b.Len())
		}
		if went, e := b.Send(mbox.Note{Degree: 0, Word: -5}); !went || e != api.OK || b.Len() != room {
			t.Errorf("room %d: %v %v, Len %d", room, went, e, b.Len())
		}
		var last mbox.Note
		for i := range room {
			n, e := b.Take()
			if e != api.OK || i == 0 && n.Word != -5 || n.Degree < last.Degree || i > 1 && n.Degree == last.Degree && n.Word <= last.Word {
				t.Fatalf("room %d, the message %d: %v %v behind %v", room, i, n, e, last)
			}
			last = n
		}
		if n, e := b.Take(); n != (mbox.Note{}) || e != api.ErrEmpty {
			t.Error(n, e)
		}
	}
}

// P51.1: each degree, and each beside each.
func TestDegrees(t *testing.T) {
	for first := range 32 {
		for second := range 32 {
			b, m := fresh(t, 1)
			send(t, b, m, mbox.Note{Degree: first, Word: 1}, mbox.Note{Degree: second, Word: 2})
			take(t, b, m)
			take(t, b, m)
			b, m = fresh(t, 2)
			send(t, b, m, mbox.Note{Degree: first, Word: 1}, mbox.Note{Degree: second, Word: 2})
			take(t, b, m)
			take(t, b, m)
		}
	}
	b, m := fresh(t, 32)
	for degree := 31; degree >= 0; degree-- {
		send(t, b, m, mbox.Note{Degree: degree, Word: -degree})
	}
	for range 33 {
		take(t, b, m)
	}
}

// P51.1, rules 2, 4 and 6: of no degree ErrQueue, also where there is no room, and nothing has changed.
func TestNoDegree(t *testing.T) {
	b, m := fresh(t, 3)
	for range 4 {
		for _, degree := range none {
			send(t, b, m, mbox.Note{Degree: degree, Word: 5})
			if l := slices.Collect(b.Of(degree)); len(l) != 0 {
				t.Errorf("Of(%d): %v", degree, l)
			}
		}
		send(t, b, m, mbox.Note{Degree: 31, Word: 6})
	}
	if b.Len() != 3 {
		t.Error(b.Len())
	}
}

// P51.1: of the greatest degree the last one goes, down to the one that is sent; then ErrOver, and nothing has changed.
func TestOver(t *testing.T) {
	b, m := fresh(t, 6)
	for _, degree := range []int{9, 4, 9, 31, 4, 31} {
		send(t, b, m, mbox.Note{Degree: degree, Word: 10 * degree})
	}
	send(t, b, m, mbox.Note{Degree: 31, Word: 1}, mbox.Note{Degree: 30, Word: 2}, mbox.Note{Degree: 9, Word: 3})
	for i := range 5 {
		send(t, b, m, mbox.Note{Degree: 9, Word: 20 + i}, mbox.Note{Degree: 4, Word: 30 + i}, mbox.Note{Degree: 5, Word: 40 + i})
	}
	for i := range 8 {
		send(t, b, m, mbox.Note{Degree: 0, Word: 50 + i})
	}
	if l := m.words(0); !slices.Equal(l, []int{50, 51, 52, 53, 54, 55}) {
		t.Error(l)
	}
}

// P51.1: behind one that went the next one of its degree comes into its place.
func TestOverThenSend(t *testing.T) {
	b, m := fresh(t, 4)
	for i := range 4 {
		send(t, b, m, mbox.Note{Degree: 7, Word: i})
	}
	send(t, b, m, mbox.Note{Degree: 3, Word: 8})
	take(t, b, m)
	send(t, b, m, mbox.Note{Degree: 7, Word: 9})
	if l := slices.Collect(b.Of(7)); !slices.Equal(l, []int{0, 1, 2, 9}) {
		t.Error(l)
	}
}

// P51.1, P1: any number is a word, also more than once.
func TestWords(t *testing.T) {
	b, m := fresh(t, 20)
	for _, w := range []int{0, 0, -1, 5, 5, math.MinInt, math.MaxInt, 1 << 32, 0} {
		send(t, b, m, mbox.Note{Degree: 2, Word: w}, mbox.Note{Degree: 1, Word: w})
	}
	for range 20 {
		take(t, b, m)
	}
}

// P51.2, rule 8: All and Of may be left anywhere; then they go through what is there then.
func TestLeft(t *testing.T) {
	b, m := fresh(t, 9)
	all, of := b.All(), b.Of(4)
	if l := slices.Collect(all); len(l) != 0 {
		t.Error(l)
	}
	if l := slices.Collect(of); len(l) != 0 {
		t.Error(l)
	}
	for i := range 12 {
		send(t, b, m, mbox.Note{Degree: []int{5, 4, 6, 0}[i%4], Word: i})
		left(t, all, m.l)
		left(t, of, m.words(4))
	}
	for range 9 {
		take(t, b, m)
		left(t, all, m.l)
		left(t, of, m.words(4))
	}
}

// left leaves what is gone through behind each, and behind none.
func left[T comparable](t *testing.T, all iter.Seq[T], want []T) {
	t.Helper()
	for most := range len(want) + 1 {
		var l []T
		for n := range all {
			if len(l) == most {
				break
			}
			l = append(l, n)
		}
		if !slices.Equal(l, want[:most]) {
			t.Fatalf("left behind %d: %v, not %v", most, l, want[:most])
		}
	}
}

// P51.2, P1: whatever is sent and taken meanwhile, All and Of go through what was there as they began.
func TestMeanwhile(t *testing.T) {
	turn := func(b *mbox.Box, m *model) {
		send(t, b, m, mbox.Note{Degree: 0, Word: 90}) // the last one of the degree 7 goes
		take(t, b, m)
		send(t, b, m, mbox.Note{Degree: 7, Word: 91}) // and another one lies where it was
	}
	for range 2 {
		b, m := fresh(t, 5)
		for i := range 5 {
			send(t, b, m, mbox.Note{Degree: 7, Word: i})
		}
		var l []int
		for n := range b.All() {
			l = append(l, n.Word)
			turn(b, m)
		}
		if !slices.Equal(l, []int{0, 1, 2, 3, 4}) {
			t.Error(l)
		}
	}
	b, m := fresh(t, 5)
	for i := range 5 {
		send(t, b, m, mbox.Note{Degree: 7, Word: i})
	}
	var l []int
	for w := range b.Of(7) {
		l = append(l, w)
		turn(b, m)
	}
	if !slices.Equal(l, []int{0, 1, 2, 3, 4}) {
		t.Error(l)
	}
	for range b.All() {
		take(t, b, m)
	}
	if b.Len() != 0 {
		t.Error(b.Len())
	}
}

// P2: two boxes don't meet.
func TestApart(t *testing.T) {
	a, m := fresh(t, 2)
	b, n := fresh(t, 2)
	send(t, a, m, mbox.Note{Degree: 1, Word: 1})
	hold(t, b, n)
	send(t, b, n, mbox.Note{Degree: 1, Word: 2})
	hold(t, a, m)
	take(t, a, m)
	hold(t, b, n)
}

// P51.1 to P51.3: whatever is sent and taken; of one degree what is taken comes in the order in which it was sent.
func TestMixture(t *testing.T) {
	for seed := range uint64(40) {
		r := rand.New(rand.NewPCG(51, seed))
		b, m := fresh(t, 1+r.IntN(12))
		degrees := 1 + r.IntN(32)
		more := 1 + r.IntN(8) // of nine calls, how many send
		var last [32]int
		for i := range 300 {
			if r.IntN(9) < more {
				send(t, b, m, mbox.Note{Degree: r.IntN(degrees+2) - 1, Word: i + 1})
				continue
			}
			n, e := b.Take()
			if want, f := m.take(); n != want || e != f {
				t.Fatalf("Take: %v %v, not %v %v", n, e, want, f)
			}
			if e == api.OK && n.Word <= last[n.Degree] {
				t.Fatalf("%v behind %d", n, last[n.Degree])
			}
			last[n.Degree] = max(last[n.Degree], n.Word)
			hold(t, b, m)
		}
	}
}

// The chapter's example.
func TestExample(t *testing.T) {
	b, _ := fresh(t, 1)
	b.Send(mbox.Note{Degree: 5, Word: 1})
	if went, e := b.Send(mbox.Note{Degree: 2, Word: 9}); !went || e != api.OK {
		t.Error(went, e)
	}
	if n, e := b.Take(); n != (mbox.Note{Degree: 2, Word: 9}) || e != api.OK {
		t.Error(n, e)
	}
}
