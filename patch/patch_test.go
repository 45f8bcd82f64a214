package patch_test

import (
	"math"
	"math/rand/v2"
	"slices"
	"testing"

	"remontoir/api"
	"remontoir/patch"
)

// most is how many words an image may have.
const most = 4096

// made: what Make answers of lists that aren't too long, told place by place: of each piece the longest first, the first one first.
func made(old, l []uint32) []patch.Op {
	var ops []patch.Op
	for at := 0; at < len(l); {
		many, from := min(len(old), len(l)-at), -1
		for ; many > 0; many-- {
			if from = place(old, l[at:at+many]); from >= 0 {
				break
			}
		}
		switch {
		case many >= 4:
			ops = append(ops, patch.Op{From: from, Many: many})
			at += many
			continue
		case len(ops) > 0 && len(ops[len(ops)-1].New) > 0:
			last := &ops[len(ops)-1]
			last.New = append(last.New, l[at])
		default:
			ops = append(ops, patch.Op{New: []uint32{l[at]}})
		}
		at++
	}
	return ops
}

// place: the first one at which a piece stands in words; -1: there is none.
func place(old, l []uint32) int {
	for i := 0; i+len(l) <= len(old); i++ {
		if slices.Equal(old[i:i+len(l)], l) {
			return i
		}
	}
	return -1
}

// alike: are pieces the same? A nil list is an empty one.
func alike(a, b []patch.Op) bool {
	return slices.EqualFunc(a, b, func(x, y patch.Op) bool {
		return x.From == y.From && x.Many == y.Many && slices.Equal(x.New, y.New)
	})
}

// hold holds what Make answers, each time the same, and that it gives back what it was made of, and isn't too long.
func hold(t *testing.T, old, l []uint32, want []patch.Op) {
	t.Helper()
	givenOld, given := slices.Clone(old), slices.Clone(l)
	for range 2 {
		ops, e := patch.Make(old, l)
		if e != api.OK || !alike(ops, want) {
			t.Fatalf("Make(%.200x, %.200x): %.300v, %v, not %.300v", old, l, ops, e, want)
		}
		if back, e := patch.Apply(old, ops...); e != api.OK || !slices.Equal(back, l) {
			t.Fatalf("Apply(%.200x, %.200v): %.200x, %v", old, ops, back, e)
		}
		if !alike(ops, want) {
			t.Fatal("pieces are changed")
		}
		if n := patch.Size(ops...); n != size(want) || n > len(l)+1 {
			t.Fatalf("Size(%.300v): %d", ops, n)
		}
	}
	if !slices.Equal(old, givenOld) || !slices.Equal(l, given) {
		t.Fatal("what was handed in is changed")
	}
}

// size: how many words pieces take.
func size(ops []patch.Op) int {
	n := 0
	for _, op := range ops {
		if len(op.New) == 0 {
			n += 2
		} else {
			n += 1 + len(op.New)
		}
	}
	return n
}

// rising: so many words from one on, no two alike.
func rising(from uint32, n int) []uint32 {
	var l []uint32
	for i := range n {
		l = append(l, from+uint32(i))
	}
	return l
}

func join(l ...[]uint32) []uint32 {
	return slices.Concat(l...)
}

// piece, and words: pieces of both kinds.
func piece(from, many int) patch.Op {
	return patch.Op{From: from, Many: many}
}

func words(l ...uint32) patch.Op {
	return patch.Op{New: l}
}

func TestLeast(t *testing.T) {
	if patch.Least != 4 {
		t.Error(patch.Least)
	}
}

// P55.1
func TestMake(t *testing.T) {
	for _, c := range []struct {
		old, l []uint32
		want   []patch.Op
	}{
		{nil, nil, nil},
		{rising(1, 9), nil, nil},
		{nil, []uint32{7}, []patch.Op{words(7)}},
		{nil, []uint32{7, 7, 7, 7, 7}, []patch.Op{words(7, 7, 7, 7, 7)}},
		{rising(1, 3), rising(1, 3), []patch.Op{words(1, 2, 3)}}, // too short
		{rising(1, 4), rising(1, 3), []patch.Op{words(1, 2, 3)}},
		{rising(1, 4), rising(1, 4), []patch.Op{piece(0, 4)}},
		{rising(1, 4), rising(1, 5), []patch.Op{piece(0, 4), words(5)}},
		{rising(1, 9), rising(3, 5), []patch.Op{piece(2, 5)}},
		{rising(1, 9), rising(6, 4), []patch.Op{piece(5, 4)}},
		{rising(1, 9), rising(7, 4), []patch.Op{words(7, 8, 9, 10)}}, // one past the end
		{rising(1, 9), join(rising(5, 5), rising(1, 4)), []patch.Op{piece(4, 5), piece(0, 4)}},
		{rising(1, 9), join(rising(5, 5), rising(1, 3)), []patch.Op{piece(4, 5), words(1, 2, 3)}},
		{rising(1, 5), []uint32{9, 8, 2, 3, 4, 5, 1, 2, 3}, []patch.Op{words(9, 8), piece(1, 4), words(1, 2, 3)}},
		{[]uint32{7, 7, 7, 7}, slices.Repeat([]uint32{7}, 11), []patch.Op{piece(0, 4), piece(0, 4), words(7, 7, 7)}},
		{[]uint32{7, 7, 7, 7, 7, 7}, slices.Repeat([]uint32{7}, 5), []patch.Op{piece(0, 5)}},
		{[]uint32{0, 0, 0, 0}, []uint32{0, 0, 0, 0}, []patch.Op{piece(0, 4)}},
		{join(rising(1, 4), []uint32{9}, rising(1, 4)), rising(1, 4), []patch.Op{piece(0, 4)}},                                              // the first one of the same length
		{join(rising(1, 4), []uint32{9}, rising(1, 5)), rising(1, 5), []patch.Op{piece(5, 5)}},                                              // the longest one
		{join(rising(1, 4), []uint32{9}, rising(1, 5), []uint32{9}, rising(1, 4)), rising(1, 5), []patch.Op{piece(5, 5)}},                   // wherever it stands
		{join(rising(1, 6), rising(1, 5), rising(1, 6)), rising(1, 6), []patch.Op{piece(0, 6)}},                                             // of three
		{join(rising(1, 3), []uint32{9}, rising(2, 9)), rising(1, 8), []patch.Op{words(1), piece(4, 7)}},                                    // from the next word on
		{join(rising(1, 4), []uint32{9}, rising(2, 9)), rising(1, 8), []patch.Op{piece(0, 4), piece(8, 4)}},                                 // though from the next one on it would be longer
		{join(rising(1, 4), []uint32{9}, rising(4, 5)), rising(1, 8), []patch.Op{piece(0, 4), piece(6, 4)}},                                 // all that it takes is taken
		{[]uint32{1<<32 - 1, 0, 1 << 31, 5}, []uint32{1<<32 - 1, 0, 1 << 31, 5}, []patch.Op{piece(0, 4)}},                                   // whatever words
		{rising(1, 8), []uint32{9, 1, 2, 3, 4, 9, 9, 5, 6, 7, 8, 9}, []patch.Op{words(9), piece(0, 4), words(9, 9), piece(4, 4), words(9)}}, // again and again
	} {
		if !alike(c.want, made(c.old, c.l)) {
			t.Fatalf("%v, %v: the model says %v", c.old, c.l, made(c.old, c.l))
		}
		hold(t, c.old, c.l, c.want)
	}
}

// P55.1: how many words either may have.
func TestMakeSize(t *testing.T) {
	all, more := rising(0, most), rising(0, most+1)
	hold(t, all, all, []patch.Op{piece(0, most)})
	hold(t, all, nil, nil)
	hold(t, nil, all, []patch.Op{words(all...)})
	hold(t, all, slices.Repeat([]uint32{5}, most), []patch.Op{words(slices.Repeat([]uint32{5}, most)...)})
	hold(t, slices.Repeat([]uint32{5}, most), slices.Repeat([]uint32{5}, most), []patch.Op{piece(0, most)})
	for _, c := range []struct{ old, l []uint32 }{
		{more, nil}, {nil, more}, {more, more}, {more, all}, {all, more}, {more, []uint32{1}}, {[]uint32{1}, more}, {make([]uint32, 100000), all}, {all, make([]uint32, 100000)},
	} {
		for range 2 {
			if ops, e := patch.Make(c.old, c.l); len(ops) != 0 || e != api.ErrSize {
				t.Errorf("%d and %d words: %d pieces, %v", len(c.old), len(c.l), len(ops), e)
			}
		}
	}
}

// P55.1, P55.3: all short lists of few words.
func TestSmall(t *testing.T) {
	var lists [][]uint32
	for n := range 9 {
		for choice := range 1 << n {
			l := make([]uint32, n)
			for i := range l {
				l[i] = uint32(choice >> i & 1)
			}
			lists = append(lists, l)
		}
	}
	for i, old := range lists {
		for k, l := range lists {
			if (i+k)%3 == 0 || len(old) < 6 {
				hold(t, old, l, made(old, l))
			}
		}
	}
}

// some: words of few kinds, some of them a piece of others.
func some(r *rand.Rand, other []uint32) []uint32 {
	var l []uint32
	for range r.IntN(12) {
		from := r.IntN(len(other) + 1)
		switch r.IntN(4) {
		case 0:
			l = append(l, rising(r.Uint32N(5), r.IntN(8))...)
		case 1:
			l = append(l, r.Uint32(), r.Uint32N(4), r.Uint32N(4))
		default:
			l = append(l, other[from:from+r.IntN(len(other)+1-from)]...)
		}
	}
	return l[:min(len(l), most)]
}

// P55.1, P55.3: lists that have pieces of others.
func TestMixture(t *testing.T) {
	r := rand.New(rand.NewPCG(55, 1))
	pieces := 0
	for range 4000 {
		old := some(r, rising(0, 9))
		if len(old) > 60 {
			old = old[:60]
		}
		l := some(r, old)
		want := made(old, l)
		hold(t, old, l, want)
		pieces += len(want)
	}
	if pieces < 10000 {
		t.Error(pieces)
	}
}

// P55.1, P55.3: as many words as may be, of which some are turned.
func TestLong(t *testing.T) {
	r := rand.New(rand.NewPCG(55, 2))
	old := make([]uint32, most)
	for i := range old {
		old[i] = r.Uint32N(1 << 30) // so that no piece stands there twice
	}
	l := slices.Clone(old)
	var want []patch.Op
	for _, at := range []int{0, 100, 101, 104, 109, 2000, 4092} {
		l[at] = 1<<31 + uint32(at)
	}
	want = []patch.Op{words(l[0]), piece(1, 99), words(l[100:105]...), piece(105, 4), words(l[109]), piece(110, 1890), words(l[2000]), piece(2001, 2091), words(l[4092:]...)}
	hold(t, old, l, want)
	l = join(old[2048:], old[:2048])
	hold(t, old, l, []patch.Op{piece(2048, 2048), piece(0, 2048)})
}

// P55.2: all pieces, one behind the other.
func TestApply(t *testing.T) {
	old := rising(10, 6)
	for _, c := range []struct {
		l    []patch.Op
		want []uint32
	}{
		{nil, nil},
		{[]patch.Op{piece(0, 6)}, old},
		{[]patch.Op{piece(5, 1)}, []uint32{15}},
		{[]patch.Op{piece(0, 1), piece(0, 1), piece(2, 3)}, []uint32{10, 10, 12, 13, 14}}, // also fewer than Least
		{[]patch.Op{words(0)}, []uint32{0}},
		{[]patch.Op{words(1, 2), words(3), piece(1, 5), words(4)}, []uint32{1, 2, 3, 11, 12, 13, 14, 15, 4}},
		{[]patch.Op{{From: 2, Many: 2, New: []uint32{}}}, []uint32{12, 13}}, // New is empty
	} {
		given := slices.Clone(c.l)
		for range 2 {
			if l, e := patch.Apply(old, c.l...); e != api.OK || !slices.Equal(l, c.want) {
				t.Errorf("%v: %v, %v", c.l, l, e)
			}
		}
		if !alike(c.l, given) || !slices.Equal(old, rising(10, 6)) {
			t.Error("what was handed in is changed")
		}
	}
	if l, e := patch.Apply(nil, words(1, 2, 3)); e != api.OK || !slices.Equal(l, []uint32{1, 2, 3}) {
		t.Error(l, e)
	}
	if l, e := patch.Apply(nil); e != api.OK || len(l) != 0 {
		t.Error(l, e)
	}
	// The old words may be more than an image's.
	if l, e := patch.Apply(rising(0, 9000), piece(8990, 10)); e != api.OK || !slices.Equal(l, rising(8990, 10)) {
		t.Error(l, e)
	}
}

// isNone holds that Apply answers an error, and nothing else.
func isNone(t *testing.T, want api.Errno, old []uint32, l ...patch.Op) {
	t.Helper()
	for range 2 {
		if got, e := patch.Apply(old, l...); len(got) != 0 || e != want {
			t.Errorf("Apply of %d words, %.100v: %d words, %v, not %v", len(old), l, len(got), e, want)
		}
	}
}

// P55.2: pieces that aren't there, have no words, or are told both ways.
func TestApplyOrder(t *testing.T) {
	old := rising(10, 6)
	for _, bad := range []patch.Op{
		{}, {New: []uint32{}}, {From: 2}, {From: 6}, piece(-1, 1), piece(-1, 2), piece(-1, 0), piece(0, -1), piece(3, -2), piece(0, 7), piece(1, 6), piece(5, 2), piece(6, 1), piece(7, 1), piece(100, 1), piece(6, 0),
		piece(math.MaxInt, 1), piece(1, math.MaxInt), piece(math.MaxInt, math.MaxInt), piece(6, math.MaxInt), piece(math.MinInt, 1), piece(0, math.MinInt), piece(math.MinInt, math.MinInt), piece(math.MinInt, math.MaxInt), piece(math.MaxInt, math.MinInt), piece(1<<32, 1), piece(0, 1<<32+1),
		{From: 1, New: []uint32{7}}, {Many: 1, New: []uint32{7}}, {From: -1, New: []uint32{7}}, {Many: -1, New: []uint32{7}}, {From: 0, Many: 6, New: []uint32{7}}, {From: math.MinInt, Many: math.MinInt, New: []uint32{7}},
	} {
		isNone(t, api.ErrOrder, old, bad)
		isNone(t, api.ErrOrder, old, bad, words(1))
		isNone(t, api.ErrOrder, old, words(1), piece(0, 6), bad)
		isNone(t, api.ErrOrder, nil, bad)
	}
	isNone(t, api.ErrOrder, nil, piece(0, 1))
	isNone(t, api.ErrOrder, old[:3], piece(0, 4)) // what lies behind the length isn't there
}

// P55.2: up to as many words as an image may have, and one more.
func TestApplySize(t *testing.T) {
	old := rising(0, most+1)
	for _, c := range [][]patch.Op{
		{piece(0, most)}, {words(old[:most]...)}, {piece(1, most-1), words(3)}, {words(old[:most-1]...), piece(7, 1)},
	} {
		if l, e := patch.Apply(old, c...); e != api.OK || len(l) != most {
			t.Error(len(l), e)
		}
		isNone(t, api.ErrSize, old, append(slices.Clone(c), words(1))...)
		isNone(t, api.ErrSize, old, append(slices.Clone(c), piece(0, 1))...)
		isNone(t, api.ErrSize, old, append([]patch.Op{piece(0, 1)}, c...)...)
		isNone(t, api.ErrSize, old, append([]patch.Op{words(1)}, c...)...)
		isNone(t, api.ErrOrder, old, append(slices.Clone(c), piece(0, 0))...) // none with words
	}
	isNone(t, api.ErrSize, old, piece(0, most+1))
	isNone(t, api.ErrSize, old, words(old...))
	isNone(t, api.ErrSize, old, slices.Repeat([]patch.Op{piece(0, 1)}, most+1)...)
	if l, e := patch.Apply(old, slices.Repeat([]patch.Op{piece(4, 1)}, most)...); e != api.OK || len(l) != most || slices.Max(l) != 4 {
		t.Error(len(l), e)
	}
}

// P55.2: piece by piece: the first one's error; of one piece first whether it is there.
func TestApplyFirst(t *testing.T) {
	old := rising(0, most+1)
	isNone(t, api.ErrSize, old, piece(0, most), piece(0, 1), piece(0, 0))
	isNone(t, api.ErrOrder, old, piece(0, most), piece(0, 0), piece(0, 1))
	isNone(t, api.ErrSize, old, piece(0, most+1), patch.Op{})
	isNone(t, api.ErrOrder, old, patch.Op{}, piece(0, most+1))
	isNone(t, api.ErrOrder, old, patch.Op{From: 1, New: old})
	isNone(t, api.ErrOrder, old, piece(2, most))
	isNone(t, api.ErrOrder, old, words(1), piece(0, 9000))
}

// P55.2: whatever pieces there are, also those that Apply doesn't take.
func TestSize(t *testing.T) {
	for _, c := range []struct {
		l    []patch.Op
		want int
	}{
		{nil, 0}, {[]patch.Op{piece(0, 1)}, 2}, {[]patch.Op{piece(9, 4000)}, 2}, {[]patch.Op{words(1)}, 2}, {[]patch.Op{words(1, 2, 3)}, 4},
		{[]patch.Op{piece(0, 4), piece(3, 4)}, 4}, {[]patch.Op{piece(0, 4), words(1, 2), piece(3, 4), words(1)}, 9},
		{[]patch.Op{{}}, 2}, {[]patch.Op{piece(-1, -1)}, 2}, {[]patch.Op{piece(math.MaxInt, math.MinInt)}, 2}, {[]patch.Op{{From: 1, Many: 1, New: []uint32{1, 2}}}, 3}, {[]patch.Op{words(make([]uint32, 9000)...)}, 9001},
	} {
		for range 2 {
			if n := patch.Size(c.l...); n != c.want {
				t.Errorf("Size(%.100v): %d, not %d", c.l, n, c.want)
			}
		}
	}
}

// Rule 5: what is answered is new memory, no two lists share any, and nothing that is handed in is kept.
func TestMemory(t *testing.T) {
	room := rising(1, 9)
	l := []uint32{90, 91, 1, 2, 3, 4, 92, 93}
	ops, e := patch.Make(room[:4], l)
	want := []patch.Op{words(90, 91), piece(0, 4), words(92, 93)}
	if e != api.OK || !alike(ops, want) {
		t.Fatal(ops, e)
	}
	_ = append(ops[0].New, 1, 2, 3, 4, 5, 6)
	clear(l)
	if !alike(ops, want) {
		t.Error(ops)
	}
	l = []uint32{90, 91, 1, 2, 3, 4, 92, 93}
	clear(ops[0].New)
	if ops[2].New[0] != 92 || l[0] != 90 {
		t.Error(ops, l)
	}
	ops = []patch.Op{words(90, 91), piece(0, 4)}
	for _, p := range [][]patch.Op{ops[:1], ops[1:], ops} {
		got, _ := patch.Apply(room, p...)
		_ = append(got, 5, 5, 5)
		clear(got)
	}
	if !slices.Equal(room, rising(1, 9)) || !slices.Equal(ops[0].New, []uint32{90, 91}) {
		t.Error(room, ops)
	}
	// What lies behind a list's length is neither read nor handed out.
	if ops, e := patch.Make(room[:4], room[:3]); e != api.OK || !alike(ops, []patch.Op{words(1, 2, 3)}) {
		t.Error(ops, e)
	}
	if ops, e := patch.Make(room[:3], room[:4]); e != api.OK || !alike(ops, []patch.Op{words(1, 2, 3, 4)}) {
		t.Error(ops, e)
	}
	if got, e := patch.Apply(room, words(room[:2]...)); e != api.OK || !slices.Equal(got, []uint32{1, 2}) {
		t.Error(got, e)
	}
}

// The chapter's example.
func TestExample(t *testing.T) {
	hold(t, rising(1, 5), []uint32{9, 1, 2, 3, 4}, []patch.Op{words(9), piece(0, 4)})
}
