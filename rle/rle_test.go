package rle_test

import (
	"math"
	"math/rand/v2"
	"slices"
	"testing"

	"remontoir/rle"
)

const (
	longest = 4096
	again   = uint32(1 << 31)
)

// row: how often the word at a place comes in a row from there on.
func row(l []uint32, at int) int {
	n := 0
	for at+n < len(l) && l[at+n] == l[at] {
		n++
	}
	return n
}

// packed: the groups' words, told place by place; and how many groups there are.
func packed(l []uint32) ([]uint32, int) {
	var p []uint32
	groups := 0
	for at := 0; at < len(l); groups++ {
		n := min(row(l, at), longest)
		if n >= 3 {
			p = append(p, again+uint32(n), l[at])
			at += n
			continue
		}
		n = 0
		for n < longest && at+n < len(l) && row(l, at+n) < 3 {
			n++
		}
		p = append(append(p, uint32(n)), l[at:at+n]...)
		at += n
	}
	return p, groups
}

// unpacked: the words of which these are just the groups' words, if there are any.
func unpacked(p []uint32) ([]uint32, bool) {
	var l []uint32
	for at := 0; at < len(p); {
		head := p[at]
		n := int(head % again)
		at++
		switch {
		case n > longest:
			return nil, false
		case head >= again && at < len(p):
			l = append(l, slices.Repeat(p[at:at+1], n)...)
			at++
		case head < again && at+n <= len(p):
			l = append(l, p[at:at+n]...)
			at += n
		default:
			return nil, false
		}
	}
	want, _ := packed(l)
	return l, slices.Equal(p, want)
}

// times: a word so often.
func times(w uint32, n int) []uint32 {
	return slices.Repeat([]uint32{w}, n)
}

// rising: so many words of which none comes twice in a row.
func rising(from uint32, n int) []uint32 {
	var l []uint32
	for i := range n {
		l = append(l, from+uint32(i))
	}
	return l
}

func join(l ...[]uint32) []uint32 {
	return slices.Concat(l...)
}

// hold holds words against what they are packed to, and back, at each bound.
func hold(t *testing.T, l, want []uint32) {
	t.Helper()
	given := slices.Clone(l)
	for range 2 { // P2: the same each time
		if got := rle.Pack(l...); !slices.Equal(got, want) {
			t.Fatalf("Pack of %d words: %.300x, not %.300x", len(l), got, want)
		}
		for _, most := range []int{len(l), len(l) + 1, len(l) + longest, math.MaxInt} {
			if got, ok := rle.Unpack(most, want...); !slices.Equal(got, l) || !ok {
				t.Fatalf("Unpack of %d, at most %d: %d words, %v", len(l), most, len(got), ok)
			}
		}
		for _, most := range []int{len(l) - 1, len(l) - longest, -1, math.MinInt} {
			if got, ok := rle.Unpack(most, want...); len(got) > 0 || ok != (most >= len(l)) {
				t.Fatalf("Unpack of %d, at most %d: %d words, %v", len(l), most, len(got), ok)
			}
		}
	}
	if !slices.Equal(l, given) {
		t.Fatal("what was handed in has changed")
	}
}

func TestLongest(t *testing.T) {
	if rle.Longest != 4096 {
		t.Error(rle.Longest)
	}
}

// P54.1
func TestPack(t *testing.T) {
	for _, c := range []struct{ l, want []uint32 }{
		{nil, nil},
		{[]uint32{7}, []uint32{1, 7}},
		{[]uint32{7, 7}, []uint32{2, 7, 7}},
		{[]uint32{7, 7, 7}, []uint32{again + 3, 7}},
		{[]uint32{7, 7, 7, 7}, []uint32{again + 4, 7}},
		{[]uint32{0, 0, 0}, []uint32{again + 3, 0}},
		{[]uint32{0xffffffff, 0xffffffff, 0xffffffff}, []uint32{again + 3, 0xffffffff}},
		{[]uint32{7, 8}, []uint32{2, 7, 8}},
		{[]uint32{7, 7, 8, 8}, []uint32{4, 7, 7, 8, 8}},
		{[]uint32{7, 7, 8, 7}, []uint32{4, 7, 7, 8, 7}},
		{[]uint32{7, 8, 7, 8, 7, 8}, []uint32{6, 7, 8, 7, 8, 7, 8}},
		{[]uint32{7, 7, 7, 1}, []uint32{again + 3, 7, 1, 1}},
		{[]uint32{1, 7, 7, 7}, []uint32{1, 1, again + 3, 7}},
		{[]uint32{7, 7, 7, 1, 1, 2}, []uint32{again + 3, 7, 3, 1, 1, 2}},
		{[]uint32{7, 7, 7, 8, 8, 8}, []uint32{again + 3, 7, again + 3, 8}},
		{[]uint32{7, 7, 7, 8, 8, 7, 7, 7}, []uint32{again + 3, 7, 2, 8, 8, again + 3, 7}},
		{[]uint32{1, 1, 2, 2, 2, 2, 3, 2}, []uint32{2, 1, 1, again + 4, 2, 2, 3, 2}},
		{[]uint32{again + 3, 7}, []uint32{2, again + 3, 7}}, // words like heads
		{[]uint32{1, 1, 1, again, again, again, again}, []uint32{again + 3, 1, again + 4, again}},
	} {
		hold(t, c.l, c.want)
	}
}

// P54.1: a word that comes as often as a group may tell, and near to that.
func TestPackLongestRow(t *testing.T) {
	one := again + longest
	for _, c := range []struct {
		l, want []uint32
	}{
		{times(7, 4095), []uint32{again + 4095, 7}},
		{times(7, 4096), []uint32{one, 7}},
		{times(7, 4097), []uint32{one, 7, 1, 7}},
		{times(7, 4098), []uint32{one, 7, 2, 7, 7}},
		{times(7, 4099), []uint32{one, 7, again + 3, 7}},
		{times(7, 8192), []uint32{one, 7, one, 7}},
		{times(7, 8193), []uint32{one, 7, one, 7, 1, 7}},
		{times(7, 8194), []uint32{one, 7, one, 7, 2, 7, 7}},
		{times(7, 8195), []uint32{one, 7, one, 7, again + 3, 7}},
		{join(times(7, 4096), []uint32{8}), []uint32{one, 7, 1, 8}},
		{join(times(7, 4096), times(8, 3)), []uint32{one, 7, again + 3, 8}},
		{join(times(7, 4098), times(8, 2)), []uint32{one, 7, 4, 7, 7, 8, 8}},
		{join(times(7, 4098), times(8, 3)), []uint32{one, 7, 2, 7, 7, again + 3, 8}},
		{join([]uint32{7, 8}, times(7, 4097), []uint32{9}), []uint32{2, 7, 8, one, 7, 2, 7, 9}},
	} {
		hold(t, c.l, c.want)
	}
}

// P54.1: as many others as a group may tell, and near to that.
func TestPackLongestOthers(t *testing.T) {
	for _, c := range []struct{ l, want []uint32 }{
		{rising(5, 4095), join([]uint32{4095}, rising(5, 4095))},
		{rising(5, 4096), join([]uint32{4096}, rising(5, 4096))},
		{rising(5, 4097), join([]uint32{4096}, rising(5, 4096), []uint32{1, 5 + 4096})},
		{rising(5, 8192), join([]uint32{4096}, rising(5, 4096), []uint32{4096}, rising(5+4096, 4096))},
		{rising(5, 8193), join([]uint32{4096}, rising(5, 4096), []uint32{4096}, rising(5+4096, 4096), []uint32{1, 5 + 8192})},
		{join(rising(5, 4095), times(1, 3)), join([]uint32{4095}, rising(5, 4095), []uint32{again + 3, 1})},
		{join(rising(5, 4096), times(1, 3)), join([]uint32{4096}, rising(5, 4096), []uint32{again + 3, 1})},
		{join(rising(5, 4097), times(1, 3)), join([]uint32{4096}, rising(5, 4096), []uint32{1, 5 + 4096, again + 3, 1})},
		{join(rising(5, 4095), times(1, 2)), join([]uint32{4096}, rising(5, 4095), []uint32{1, 1, 1})}, // two alike are cut apart
		{join(rising(5, 4094), times(1, 2), times(2, 2)), join([]uint32{4096}, rising(5, 4094), []uint32{1, 1, 2, 2, 2})},
		{join(rising(5, 4095), times(1, 2), times(2, 3)), join([]uint32{4096}, rising(5, 4095), []uint32{1, 1, 1, again + 3, 2})},
		{join(times(1, 3), rising(5, 4097), times(1, 3)), join([]uint32{again + 3, 1, 4096}, rising(5, 4096), []uint32{1, 5 + 4096, again + 3, 1})},
	} {
		hold(t, c.l, c.want)
	}
}

// P54.1, P54.2: all lists of few words, and long ones, held against what the words say, place by place.
func TestAgainst(t *testing.T) {
	for n := range 9 {
		for choice := range 1 << (2 * n) {
			l := make([]uint32, n)
			for i := range l {
				l[i] = uint32(choice >> (2 * i) & 3)
			}
			if n == 8 && slices.Max(l) > 2 {
				continue
			}
			want, _ := packed(l)
			got := rle.Pack(l...)
			back, ok := rle.Unpack(n, got...)
			if !slices.Equal(got, want) || !slices.Equal(back, l) || !ok {
				t.Fatalf("%x: %x, not %x; back: %x, %v", l, got, want, back, ok)
			}
		}
	}
	r := rand.New(rand.NewPCG(54, 1))
	for range 60 {
		l := some(r)
		want, _ := packed(l)
		hold(t, l, want)
	}
}

// some: words in rows short and long.
func some(r *rand.Rand) []uint32 {
	var l []uint32
	for range r.IntN(8) {
		switch r.IntN(4) {
		case 0:
			l = append(l, times(r.Uint32N(3), longest*r.IntN(3)+r.IntN(7))...)
		case 1:
			l = append(l, rising(r.Uint32(), longest*r.IntN(3)+r.IntN(7))...)
		case 2:
			l = append(l, rising(r.Uint32(), longest-r.IntN(4))...)
		default:
			for range r.IntN(100) {
				l = append(l, times(r.Uint32N(3), 1+r.IntN(4))...)
			}
		}
	}
	return l
}

// P54.2: how much more it takes at most.
func TestRoom(t *testing.T) {
	r := rand.New(rand.NewPCG(54, 2))
	for _, l := range [][]uint32{nil, {1}, rising(0, 4096), rising(0, 4097), rising(0, 20000), times(1, 20000)} {
		room(t, l)
	}
	for range 200 {
		room(t, some(r))
	}
	var worst []uint32 // a word, and one three times, again and again
	for i := range uint32(3000) {
		worst = append(worst, 2*i, 2*i+1, 2*i+1, 2*i+1)
	}
	room(t, worst)
}

func room(t *testing.T, l []uint32) {
	t.Helper()
	_, groups := packed(l)
	most := len(l) + (len(l)+longest-1)/longest + groups/2
	if got := len(rle.Pack(l...)); got > most {
		t.Errorf("%d words in %d groups: %d, more than %d", len(l), groups, got, most)
	}
}

// P54.1: words that are no groups, or not those that Pack makes.
func TestUnpackWrong(t *testing.T) {
	for _, p := range [][]uint32{
		{0}, {1}, {2}, {2, 7}, {3, 7, 8}, {4096}, {4097}, {0xffffffff}, {again - 1},
		{again}, {again, 7}, {again + 1, 7}, {again + 2, 7}, {again + 3}, {again + 4096}, {again + 4097, 7}, {0xffffffff, 7}, {again + 1<<30 + 3, 7}, {1 << 30}, {1<<30 + 1, 7},
		{0, again + 3, 7}, {again + 3, 7, 0}, {again + 3, 7, 1}, {again + 3, 7, again + 3}, {1, 7, 0}, {1, 7, 2, 7}, {again + 3, 7, again + 2, 8}, {again + 2, 8, again + 3, 7},
		{3, 7, 7, 7}, {4, 1, 7, 7, 7}, {4, 7, 7, 7, 1}, {5, 1, 7, 7, 7, 1}, // what comes often among others
		{1, 5, 1, 6}, {2, 5, 5, 1, 5}, {1, 5, 1, 5}, {1, 5, 2, 5, 5}, // others that belong together
		{1, 7, again + 3, 7}, {2, 8, 7, again + 3, 7}, {again + 3, 7, 1, 7}, {again + 3, 7, 2, 7, 8}, {again + 3, 7, again + 3, 7}, {again + 4095, 7, 1, 7}, {again + 3, 7, again + 4096, 7},
		{1, 7, again + 4096, 7}, {again + 4096, 7, 2, 7, 8, 1, 9}, {again + 4096, 7, 3, 7, 7, 7}, {again + 4096, 7, 1, 7, again + 4096, 7},
		join([]uint32{4097}, rising(5, 4097)), join([]uint32{4095}, rising(5, 4095), []uint32{1, 1}), join([]uint32{1, 1, 4096}, rising(5, 4096)),
		join([]uint32{4096}, rising(5, 4094), []uint32{1, 1, 1, 1}), join([]uint32{4096}, rising(5, 4095), []uint32{1, 2, 1, 1}), join([]uint32{4096}, rising(5, 4095), []uint32{1, 1, 1, again + 3, 1}), join([]uint32{4096}, rising(5, 4095), []uint32{1, again + 3, 1}),
		join([]uint32{4096}, rising(5, 4096), []uint32{0}), join([]uint32{4096}, rising(5, 4096), []uint32{3, 1, 1, 1}), join([]uint32{4096}, rising(5, 4095)),
	} {
		given := slices.Clone(p)
		for _, most := range []int{0, 1, 5, 99, 1 << 20, math.MaxInt, -1, math.MinInt} {
			if l, ok := rle.Unpack(most, p...); len(l) > 0 || ok {
				t.Errorf("%.99x, at most %d: %d words", p, most, len(l))
			}
		}
		if !slices.Equal(p, given) {
			t.Error("what was handed in has changed")
		}
	}
}

// P54.1: groups of all kinds, one behind the other: told just where they are some words' Pack.
func TestUnpackAgainst(t *testing.T) {
	r := rand.New(rand.NewPCG(54, 3))
	right := 0
	for i := range 4000 {
		near := i%20 == 0 // near to the longest ones
		var p []uint32
		for range 1 + r.IntN(5) {
			n := r.IntN(5)
			if near && r.IntN(2) == 0 {
				n = longest - 2 + r.IntN(4)
			}
			switch {
			case r.IntN(2) == 0:
				p = append(p, again+uint32(n), r.Uint32N(2))
			case n > 5:
				p = append(p, uint32(n))
				p = append(append(p, rising(5, n-2)...), r.Uint32N(2), r.Uint32N(2))
			default:
				p = append(p, uint32(n))
				for range n {
					p = append(p, r.Uint32N(3))
				}
			}
		}
		if r.IntN(9) == 0 {
			p = p[:len(p)-1]
		}
		want, ok := unpacked(p)
		if !ok {
			want = nil
		} else {
			right++
		}
		if got, is := rle.Unpack(math.MaxInt, p...); is != ok || !slices.Equal(got, want) {
			t.Fatalf("%.300x: %d words, %v, not %v", p, len(got), is, ok)
		}
		if got, is := rle.Unpack(len(want)-1, p...); is || len(got) > 0 {
			t.Fatalf("%.300x: %d words, more than may be", p, len(got))
		}
	}
	if right < 400 {
		t.Error(right)
	}
}

// P54.1, P1: many groups tell more words than there may be, and than there is room for.
func TestUnpackMany(t *testing.T) {
	p := slices.Repeat([]uint32{again + longest, 7}, 2000)
	if l, ok := rle.Unpack(2000*longest, p...); !ok || len(l) != 2000*longest || slices.Max(l) != 7 || slices.Min(l) != 7 {
		t.Error(len(l), ok)
	}
	if l, ok := rle.Unpack(2000*longest-1, p...); ok || len(l) > 0 {
		t.Error(len(l), ok)
	}
	if l, ok := rle.Unpack(math.MaxInt, append(p, 0)...); ok || len(l) > 0 {
		t.Error(len(l), ok)
	}
	if l, ok := rle.Unpack(1000, slices.Repeat([]uint32{again + longest, 7}, 1<<22)...); ok || len(l) > 0 {
		t.Error(len(l), ok)
	}
}

// P54.1: of nothing, none; of most below 0, false.
func TestEmpty(t *testing.T) {
	if p := rle.Pack(); len(p) != 0 {
		t.Error(p)
	}
	for _, most := range []int{0, 1, math.MaxInt} {
		if l, ok := rle.Unpack(most); len(l) > 0 || !ok {
			t.Errorf("at most %d: %x, %v", most, l, ok)
		}
	}
	for _, most := range []int{-1, -2, math.MinInt} {
		for _, p := range [][]uint32{nil, {1, 7}, {0}} {
			if l, ok := rle.Unpack(most, p...); len(l) > 0 || ok {
				t.Errorf("at most %d of %x: %x, %v", most, p, l, ok)
			}
		}
	}
}

// Rule 5: what lies behind a list's length isn't read or changed, and answers are new memory.
func TestMemory(t *testing.T) {
	room := []uint32{9, 1, 1, 1, 1, 1, 1}
	if p := rle.Pack(room[:3]...); !slices.Equal(p, []uint32{3, 9, 1, 1}) {
		t.Error(p)
	}
	if p := rle.Pack(room[:1]...); !slices.Equal(p, []uint32{1, 9}) {
		t.Error(p)
	}
	if !slices.Equal(room, []uint32{9, 1, 1, 1, 1, 1, 1}) {
		t.Error(room)
	}
	room = []uint32{2, 8, 9, 5, 5}
	if l, ok := rle.Unpack(9, room[:2]...); ok || len(l) > 0 {
		t.Error(l)
	}
	l, ok := rle.Unpack(9, room[:3]...)
	if !ok || !slices.Equal(l, []uint32{8, 9}) {
		t.Error(l, ok)
	}
	l[0] = 0
	_ = append(l, 0, 0)
	if !slices.Equal(room, []uint32{2, 8, 9, 5, 5}) {
		t.Error(room)
	}
	words := []uint32{4, 5, 6}
	p := rle.Pack(words...)
	clear(p)
	if !slices.Equal(words, []uint32{4, 5, 6}) {
		t.Error(words)
	}
}

// The chapter's example.
func TestExample(t *testing.T) {
	if p := rle.Pack(7, 7, 7, 1); !slices.Equal(p, []uint32{0x80000003, 7, 1, 1}) {
		t.Errorf("%x", p)
	}
}
