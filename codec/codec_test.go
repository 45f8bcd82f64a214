package codec_test

import (
	"math"
	"math/rand/v2"
	"reflect"
	"slices"
	"testing"

	"remontoir/api"
	"remontoir/codec"
	"remontoir/image"
)

// wordsOf: an image's words, told by the chapter's words one by one.
func wordsOf(x api.Image) []uint32 {
	l := []int{0x52454d31, x.Res, len(x.Tasks), len(x.Modes), len(x.Edges)}
	for _, k := range x.Tasks {
		set := 0
		var longest []int
		for res := range 8 {
			if k.Longest[res] > 0 {
				set += 1 << res
				longest = append(longest, k.Longest[res])
			}
		}
		l = slices.Concat(l, []int{k.Period, k.Deadline, k.Cost, set}, longest)
	}
	for _, m := range x.Modes {
		l = append(l, int(m.Tasks), len(m.Queues))
		for _, q := range m.Queues {
			l = append(l, q.Cap, int(q.Policy))
		}
	}
	for _, e := range x.Edges {
		l = append(l, e.From, e.To, int(e.Protocol), e.Map[0], e.Map[1], e.Map[2], e.Map[3])
		for task := range 16 {
			if e.Protocol == 3 && x.Modes[e.To].Tasks>>task&1 == 1 && x.Modes[e.From].Tasks>>task&1 == 0 {
				l = append(l, e.Offsets[task])
			}
		}
	}
	words := make([]uint32, len(l))
	for i, n := range l {
		words[i] = uint32(n)
	}
	return words
}

// random: an image that may be.
func random(t *testing.T, r *rand.Rand) api.Image {
	t.Helper()
	x := api.Image{Res: r.IntN(9)}
	for range 1 + r.IntN(16) {
		k := api.Task{Period: 1 + r.IntN(4096)}
		k.Deadline = 1 + r.IntN(k.Period)
		k.Cost = 1 + r.IntN(k.Deadline)
		for res := range x.Res {
			k.Longest[res] = max(r.IntN(2*k.Cost)-k.Cost+1, 0)
		}
		x.Tasks = append(x.Tasks, k)
	}
	for range 1 + r.IntN(8) {
		m := api.Mode{Tasks: r.Uint32() & (1<<len(x.Tasks) - 1)}
		for range r.IntN(5) {
			m.Queues = append(m.Queues, api.Queue{Cap: 1 + r.IntN(16), Policy: api.Policy(1 + r.IntN(3))})
		}
		x.Modes = append(x.Modes, m)
	}
	for range r.IntN(40) {
		e := edge(r, x)
		if _, there := image.Edge(x, e.From, e.To); e.From != e.To && !there && len(x.Edges) < 24 {
			x.Edges = append(x.Edges, e)
		}
	}
	if at, e := image.Check(x); e != api.OK {
		t.Fatalf("%+v: %d, %v", x, at, e)
	}
	return x
}

// edge: an edge between two of an image's modes.
func edge(r *rand.Rand, x api.Image) api.Edge {
	e := api.Edge{From: r.IntN(len(x.Modes)), To: r.IntN(len(x.Modes)), Protocol: api.Protocol(1 + r.IntN(3))}
	from, to := x.Modes[e.From], x.Modes[e.To]
	for place, n := range r.Perm(len(to.Queues)) {
		if place < len(from.Queues) && r.IntN(3) > 0 {
			e.Map[place] = n + 1
		}
	}
	for task := range x.Tasks {
		if e.Protocol == api.Apart && (to.Tasks&^from.Tasks)>>task&1 == 1 {
			e.Offsets[task] = r.IntN(3) / 2 * r.IntN(1<<14+1)
		}
	}
	return e
}

// least: an image that has as little of all as may be.
func least() api.Image {
	return api.Image{Tasks: []api.Task{{Period: 1, Deadline: 1, Cost: 1}}, Modes: []api.Mode{{}}}
}

// greatest: an image that has as many words as may be.
func greatest() api.Image {
	x := api.Image{Res: 8}
	for range 16 {
		x.Tasks = append(x.Tasks, api.Task{Period: 4096, Deadline: 4096, Cost: 4096, Longest: [8]int{4096, 4095, 4096, 1, 4096, 2, 4096, 4096}})
	}
	for mode := range 8 {
		m := api.Mode{Queues: slices.Repeat([]api.Queue{{Cap: 16, Policy: api.DropNew}}, 4)}
		if mode >= 4 {
			m.Tasks = 0xffff
		}
		x.Modes = append(x.Modes, m)
	}
	for from := range 4 {
		for to := 4; to < 8; to++ {
			e := api.Edge{From: from, To: to, Protocol: api.Apart, Map: [4]int{4, 3, 2, 1}}
			for task := range e.Offsets {
				e.Offsets[task] = 1<<14 - task
			}
			x.Edges = append(x.Edges, e)
		}
	}
	return x
}

// is holds what Encode and Decode answer of an image that may be, each time the same, and that what is handed in stays.
func is(t *testing.T, x api.Image) {
	t.Helper()
	given, want := image.Copy(x), wordsOf(x)
	for range 2 {
		l, e := codec.Encode(x)
		if e != api.OK || !slices.Equal(l, want) {
			t.Fatalf("Encode(%+v): %v, %v, not %v", x, l, e, want)
		}
		if y, e := codec.Decode(l...); e != api.OK || !image.Same(x, y) {
			t.Fatalf("Decode(%v): %+v, %v, not %+v", l, y, e, x)
		}
		if !slices.Equal(l, want) {
			t.Fatalf("%v is changed to %v", want, l)
		}
	}
	if !image.Same(x, given) {
		t.Fatalf("%+v is changed to %+v", given, x)
	}
}

// isNone holds that words are no image's.
func isNone(t *testing.T, l ...uint32) {
	t.Helper()
	given := slices.Clone(l)
	for range 2 {
		if x, e := codec.Decode(l...); e != api.ErrCodec || !reflect.DeepEqual(x, api.Image{}) {
			t.Fatalf("Decode(%v): %+v, %v", l, x, e)
		}
	}
	if !slices.Equal(l, given) {
		t.Fatalf("%v is changed to %v", given, l)
	}
}

// P11.1 to P11.3: the bounds.
func TestBounds(t *testing.T) {
	is(t, least())
	is(t, greatest())
	l, e := codec.Encode(least())
	if want := []uint32{codec.Magic, 0, 1, 1, 0, 1, 1, 1, 0, 0, 0}; e != api.OK || !slices.Equal(l, want) {
		t.Error(l, e)
	}
	if l, _ := codec.Encode(greatest()); len(l) != 5+16*12+8*10+16*(7+16) {
		t.Error(len(l))
	}
	// A nil list is an empty one.
	x := least()
	x.Edges, x.Modes[0].Queues = []api.Edge{}, []api.Queue{}
	is(t, x)
	if codec.Magic != 0x52454d31 {
		t.Error(codec.Magic)
	}
}

// P11.1 to P11.3: whatever images may be.
func TestMixture(t *testing.T) {
	r := rand.New(rand.NewPCG(11, 1))
	edges := 0
	for range 5000 {
		x := random(t, r)
		is(t, x)
		edges += len(x.Edges)
	}
	if edges < 5000 {
		t.Errorf("%d edges", edges)
	}
}

// P11.1: the resources that a task uses, of all that there may be.
func TestUses(t *testing.T) {
	for set := range 256 {
		x := least()
		x.Res, x.Tasks[0] = 8, api.Task{Period: 300, Deadline: 300, Cost: 300}
		want := []uint32{codec.Magic, 8, 1, 1, 0, 300, 300, 300, uint32(set)}
		for res := range 8 {
			if set>>res&1 == 1 {
				x.Tasks[0].Longest[res] = 100 + res
				want = append(want, uint32(100+res))
			}
		}
		want = append(want, 0, 0)
		if l, e := codec.Encode(x); e != api.OK || !slices.Equal(l, want) {
			t.Errorf("%v, %v, not %v", l, e, want)
		}
		is(t, x)
	}
}

// P11.1: offsets of tasks that are in To and not in From, also those that are 0, of Apart alone.
func TestOffsets(t *testing.T) {
	for protocol := api.Idle; protocol <= api.Apart; protocol++ {
		x := least()
		x.Tasks = slices.Repeat(x.Tasks, 16)
		x.Modes = []api.Mode{{Tasks: 0x0f0f}, {Tasks: 0xe033}}
		x.Edges = []api.Edge{{From: 0, To: 1, Protocol: protocol}, {From: 1, To: 0, Protocol: protocol}}
		tail := []uint32{0, 1, uint32(protocol), 0, 0, 0, 0}
		back := []uint32{1, 0, uint32(protocol), 0, 0, 0, 0}
		if protocol == api.Apart {
			x.Edges[0].Offsets[4], x.Edges[0].Offsets[15] = 7, 1<<14
			x.Edges[1].Offsets[2] = 3
			tail = append(tail, 7, 0, 0, 0, 1<<14) // 4, 5, 13, 14, 15
			back = append(back, 3, 0, 0, 0, 0, 0)  // 2, 3, 8, 9, 10, 11
		}
		want := append(tail, back...)
		if l, e := codec.Encode(x); e != api.OK || len(l) != 5+16*4+2*2+len(want) || !slices.Equal(l[5+16*4+2*2:], want) {
			t.Errorf("%v, %v, at last not %v", l, e, want)
		}
		is(t, x)
	}
}

// P11.1: an image that may not be has no words; layer 10 says why.
func TestEncodeErrors(t *testing.T) {
	for _, c := range []struct {
		e    api.Errno
		turn func(*api.Image)
	}{
		{api.ErrRes, func(x *api.Image) { x.Res = 9 }},
		{api.ErrRes, func(x *api.Image) { x.Res, x.Tasks = -1, nil }},
		{api.ErrTask, func(x *api.Image) { x.Tasks = nil }},
		{api.ErrTask, func(x *api.Image) { x.Tasks = slices.Repeat(x.Tasks, 2) }},
		{api.ErrTask, func(x *api.Image) { x.Tasks[15].Cost = 4097 }},
		{api.ErrTask, func(x *api.Image) { x.Tasks[3].Period = 1 << 32 }},
		{api.ErrTask, func(x *api.Image) { x.Tasks[3].Longest[7], x.Modes = -1, nil }},
		{api.ErrMode, func(x *api.Image) { x.Modes = nil }},
		{api.ErrMode, func(x *api.Image) { x.Modes[0].Tasks = 1 << 16 }},
		{api.ErrQueue, func(x *api.Image) { x.Modes[7].Queues[3].Cap = 1<<32 + 1 }},
		{api.ErrQueue, func(x *api.Image) { x.Modes[7].Queues[3].Policy, x.Edges[0].To = math.MinInt, 0 }},
		{api.ErrEdge, func(x *api.Image) { x.Edges[15].Offsets[15] = 1<<14 + 1 }},
		{api.ErrEdge, func(x *api.Image) { x.Edges[0].Map[2] = 1 << 32 }},
		{api.ErrEdge, func(x *api.Image) { x.Edges[1].Protocol = api.Idle }},
		{api.ErrEdge, func(x *api.Image) { x.Edges[1].From = -1 }},
		{api.ErrEdge, func(x *api.Image) { x.Edges = make([]api.Edge, 25) }},
	} {
		x := greatest()
		c.turn(&x)
		for range 2 {
			if l, e := codec.Encode(x); e != c.e || len(l) != 0 {
				t.Errorf("%v: %v, %v", c.e, l, e)
			}
		}
	}
	if l, e := codec.Encode(api.Image{}); e != api.ErrTask || len(l) != 0 {
		t.Error(l, e)
	}
}

// P11.2: words that end too early, or too late, and none at all.
func TestLengths(t *testing.T) {
	isNone(t)
	isNone(t, []uint32{}...)
	isNone(t, codec.Magic)
	isNone(t, make([]uint32, 5000)...)
	isNone(t, slices.Repeat([]uint32{1<<32 - 1}, 5000)...)
	r := rand.New(rand.NewPCG(11, 2))
	for _, x := range []api.Image{least(), greatest(), random(t, r), random(t, r), random(t, r)} {
		l := wordsOf(x)
		for n := range l {
			isNone(t, l[:n]...) // also where what lies behind the length would be right
		}
		for _, n := range []uint32{0, 1, codec.Magic, 1<<32 - 1} {
			isNone(t, append(slices.Clone(l), n)...)
			isNone(t, append(slices.Clone(l), slices.Repeat([]uint32{n}, 4096)...)...)
			isNone(t, append([]uint32{n}, l...)...)
		}
		isNone(t, l[1:]...)
		isNone(t, append(slices.Clone(l), l...)...)
		if y, e := codec.Decode(append(slices.Clone(l), 7)[:len(l)]...); e != api.OK || !image.Same(x, y) {
			t.Error(y, e)
		}
	}
}

// P11.2: another first word.
func TestMagic(t *testing.T) {
	for bit := range 32 {
		l := wordsOf(least())
		l[0] ^= 1 << bit
		isNone(t, l...)
	}
}

// P11.2: more of something than may be, however much is promised.
func TestTooMany(t *testing.T) {
	for place := range 5 {
		for _, n := range []uint32{9, 17, 25, 1 << 16, 1 << 31, 1<<32 - 1} {
			l := wordsOf(greatest())
			l[place] = n
			isNone(t, l...)
			isNone(t, append(l, make([]uint32, 10000)...)...)
		}
	}
	x := least()
	x.Tasks = slices.Repeat(x.Tasks, 17)
	isNone(t, wordsOf(x)...)
	x = least()
	x.Modes = slices.Repeat(x.Modes, 9)
	isNone(t, wordsOf(x)...)
	x = least()
	x.Modes[0].Queues = slices.Repeat([]api.Queue{{Cap: 1, Policy: 1}}, 5)
	isNone(t, wordsOf(x)...)
	x = greatest()
	for len(x.Edges) < 25 {
		from, to := len(x.Edges)-16, (len(x.Edges)-16+1)%8
		x.Edges = append(x.Edges, api.Edge{From: from % 8, To: to, Protocol: api.Idle})
	}
	isNone(t, wordsOf(x)...)
}

// P11.2: a set of resources with numbers that there aren't, or with a Longest of 0.
func TestSets(t *testing.T) {
	for _, c := range []struct{ set, longest []uint32 }{
		{[]uint32{1}, []uint32{0}}, {[]uint32{3}, []uint32{1, 0}}, {[]uint32{3}, []uint32{0, 1}},
		{[]uint32{1 << 8}, nil}, {[]uint32{1 << 8}, []uint32{1}}, {[]uint32{1<<31 | 1}, []uint32{1}}, {[]uint32{1<<31 | 1}, []uint32{1, 1}},
		{[]uint32{1 << 2}, []uint32{1}}, // there are two alone
		{[]uint32{1}, []uint32{6}},      // longer than the Cost
		{[]uint32{1}, []uint32{1<<32 - 1}},
	} {
		isNone(t, slices.Concat([]uint32{codec.Magic, 2, 1, 1, 0, 5, 5, 5}, c.set, c.longest, []uint32{1, 0})...)
	}
	if x, e := codec.Decode(codec.Magic, 2, 1, 1, 0, 5, 5, 5, 3, 1, 5, 1, 0); e != api.OK || x.Tasks[0].Longest != [8]int{1, 5} {
		t.Error(x, e)
	}
}

// P11.2: modes and edges that may not be, with tasks and modes that there aren't.
func TestModesAndEdges(t *testing.T) {
	head := []uint32{codec.Magic, 0, 1, 2, 1, 1, 1, 1, 0}
	join := func(l ...[]uint32) []uint32 { return slices.Concat(head, slices.Concat(l...)) }
	if x, e := codec.Decode(join([]uint32{0, 0}, []uint32{1, 0}, []uint32{0, 1, 3, 0, 0, 0, 0, 9})...); e != api.OK || x.Edges[0].Offsets[0] != 9 {
		t.Fatal(x, e)
	}
	isNone(t, join([]uint32{0, 0}, []uint32{2, 0}, []uint32{0, 1, 3, 0, 0, 0, 0, 9})...)
	isNone(t, join([]uint32{0, 0}, []uint32{1 << 31, 0}, []uint32{0, 1, 3, 0, 0, 0, 0, 9})...)
	isNone(t, join([]uint32{0, 0}, []uint32{1<<32 - 1, 0}, []uint32{0, 1, 3, 0, 0, 0, 0}, make([]uint32, 32))...)
	isNone(t, join([]uint32{0, 0}, []uint32{1<<32 - 1, 0}, []uint32{0, 1, 3, 0, 0, 0, 0}, make([]uint32, 16))...)
	isNone(t, join([]uint32{0, 0}, []uint32{1, 0}, []uint32{0, 1, 3, 0, 0, 0, 0, 1<<14 + 1})...)
	isNone(t, join([]uint32{0, 0}, []uint32{1, 0}, []uint32{0, 1, 1, 0, 0, 0, 0, 9})...) // no offset but of Apart
	isNone(t, join([]uint32{0, 0}, []uint32{1, 0}, []uint32{0, 1, 1, 0, 0, 0, 0, 0})...)
	isNone(t, join([]uint32{0, 0}, []uint32{1, 0}, []uint32{0, 1, 3, 0, 0, 0, 0})...)
	isNone(t, join([]uint32{0, 0}, []uint32{1, 0}, []uint32{1, 0, 3, 0, 0, 0, 0, 0})...) // back, nothing is new
	for _, n := range []uint32{2, 3, 1 << 31, 1<<32 - 1} {
		isNone(t, join([]uint32{0, 0}, []uint32{1, 0}, []uint32{n, 1, 1, 0, 0, 0, 0})...)
		isNone(t, join([]uint32{0, 0}, []uint32{1, 0}, []uint32{n, 1, 3, 0, 0, 0, 0, 9})...)
		isNone(t, join([]uint32{0, 0}, []uint32{1, 0}, []uint32{0, n, 3, 0, 0, 0, 0})...)
		isNone(t, join([]uint32{0, 0}, []uint32{1, 0}, []uint32{0, 1, 1, n, 0, 0, 0})...)
	}
	for _, n := range []uint32{0, 4, 5, 1 << 31, 1<<32 - 1} {
		isNone(t, join([]uint32{0, 0}, []uint32{1, 0}, []uint32{0, 1, n, 0, 0, 0, 0})...)
		isNone(t, join([]uint32{0, 0}, []uint32{1, 0}, []uint32{0, 1, n, 0, 0, 0, 0, 9})...)
	}
}

// read: the image of words, told in another way: each word is asked for by what it may be; false: there is none.
func read(l []uint32) (x api.Image, ok bool) {
	type wrong struct{}
	defer func() {
		switch r := recover(); r {
		case nil:
		case wrong{}:
			x, ok = api.Image{}, false
		default:
			panic(r)
		}
	}()
	at := 0
	word := func(least, most int) int {
		if at == len(l) || int64(l[at]) < int64(least) || int64(l[at]) > int64(most) {
			panic(wrong{})
		}
		at++
		return int(l[at-1])
	}
	word(0x52454d31, 0x52454d31)
	x.Res = word(0, 8)
	x.Tasks, x.Modes, x.Edges = make([]api.Task, word(1, 16)), make([]api.Mode, word(1, 8)), make([]api.Edge, word(0, 24))
	for i := range x.Tasks {
		k := &x.Tasks[i]
		k.Period = word(1, 4096)
		k.Deadline = word(1, k.Period)
		k.Cost = word(1, k.Deadline)
		set := word(0, 1<<x.Res-1)
		for res := range k.Longest {
			if set>>res&1 == 1 {
				k.Longest[res] = word(1, k.Cost)
			}
		}
	}
	for i := range x.Modes {
		x.Modes[i] = api.Mode{Tasks: uint32(word(0, 1<<len(x.Tasks)-1))}
		for range word(0, 4) {
			x.Modes[i].Queues = append(x.Modes[i].Queues, api.Queue{Cap: word(1, 16), Policy: api.Policy(word(1, 3))})
		}
	}
	gone := map[[2]int]bool{}
	for i := range x.Edges {
		e := &x.Edges[i]
		e.From, e.To, e.Protocol = word(0, len(x.Modes)-1), word(0, len(x.Modes)-1), api.Protocol(word(1, 3))
		if e.From == e.To || gone[[2]int{e.From, e.To}] {
			panic(wrong{})
		}
		gone[[2]int{e.From, e.To}] = true
		taken := map[int]bool{}
		for place := range e.Map {
			most := 0
			if place < len(x.Modes[e.From].Queues) {
				most = len(x.Modes[e.To].Queues)
			}
			n := word(0, most)
			if taken[n] {
				panic(wrong{})
			}
			e.Map[place], taken[n] = n, n > 0
		}
		for task := range e.Offsets {
			if e.Protocol == api.Apart && (x.Modes[e.To].Tasks&^x.Modes[e.From].Tasks)>>task&1 == 1 {
				e.Offsets[task] = word(0, 1<<14)
			}
		}
	}
	if at < len(l) {
		panic(wrong{})
	}
	return x, true
}

// P11.2, P11.3: whatever is turned of an image's words: the image whose words they are then, which is encoded as they are; or none.
func TestTurned(t *testing.T) {
	r := rand.New(rand.NewPCG(11, 3))
	right, none := 0, 0
	for range 30000 {
		l := wordsOf(random(t, r))
		for range 1 + r.IntN(3) {
			at := r.IntN(len(l))
			switch r.IntN(8) {
			case 0:
				l = slices.Delete(l, at, at+1)
			case 1:
				l = slices.Insert(l, at, uint32(r.IntN(4)))
			case 2:
				l[at] = r.Uint32()
			case 3:
				l[at] ^= 1 << r.IntN(32)
			default:
				l[at] += uint32(r.IntN(5) - 2)
			}
			if len(l) == 0 {
				break
			}
		}
		want, ok := read(l)
		if !ok {
			isNone(t, l...)
			none++
			continue
		}
		right++
		x, e := codec.Decode(l...)
		if e != api.OK || !image.Same(x, want) {
			t.Fatalf("Decode(%v): %+v, %v, not %+v", l, x, e, want)
		}
		is(t, x)
		if again, e := codec.Encode(x); e != api.OK || !slices.Equal(again, l) {
			t.Fatalf("Encode(%+v): %v, %v, not %v", x, again, e, l)
		}
	}
	if right < 1000 || none < 1000 {
		t.Errorf("%d are images', %d none's", right, none)
	}
}

// P11.2: words at random, from Magic on: of none hardly any are an image's, and nothing panics.
func TestRaw(t *testing.T) {
	r := rand.New(rand.NewPCG(11, 4))
	for range 30000 {
		l := make([]uint32, 1+r.IntN(60))
		for i := range l {
			l[i] = []uint32{uint32(r.IntN(4)), uint32(r.IntN(20)), r.Uint32(), 1<<32 - 1}[r.IntN(4)]
		}
		l[0] = codec.Magic
		want, ok := read(l)
		if !ok {
			isNone(t, l...)
		} else if x, e := codec.Decode(l...); e != api.OK || !image.Same(x, want) {
			t.Fatalf("Decode(%v): %+v, %v, not %+v", l, x, e, want)
		}
	}
}

// Rule 5: what is answered is new memory; no two lists of an answer share any.
func TestMemory(t *testing.T) {
	x := greatest()
	a, _ := codec.Encode(x)
	b, _ := codec.Encode(x)
	clear(a)
	if !slices.Equal(b, wordsOf(x)) {
		t.Error("words share something")
	}
	l := slices.Clone(b)
	y, _ := codec.Decode(l...)
	z, _ := codec.Decode(l...)
	clear(l)
	if !image.Same(x, y) {
		t.Error("an image shares something with its words")
	}
	for i := range y.Modes {
		_ = append(y.Modes[i].Queues, api.Queue{Cap: 5})
		y.Modes[i].Queues[0].Cap = 0
		for n := range y.Modes {
			if n > i && y.Modes[n].Queues[0].Cap == 0 {
				t.Error("the queues of two modes share something")
			}
		}
	}
	clear(y.Tasks)
	clear(y.Edges)
	if !image.Same(x, z) || !image.Same(x, greatest()) {
		t.Error("two images share something")
	}
}

// The chapter's example.
func TestExample(t *testing.T) {
	x := api.Image{Tasks: []api.Task{{Period: 10, Deadline: 8, Cost: 2}}, Modes: []api.Mode{{Tasks: 1}}}
	is(t, x)
	if l, e := codec.Encode(x); e != api.OK || !slices.Equal(l, []uint32{0x52454d31, 0, 1, 1, 0, 10, 8, 2, 0, 1, 0}) {
		t.Error(l, e)
	}
}
