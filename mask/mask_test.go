package mask_test

import (
	"iter"
	"math"
	"slices"
	"testing"

	"remontoir/mask"
)

const every = mask.Set(1<<32 - 1)

// some are sets of all kinds: the empty one, the bounds, both ends, a mixture, all.
var some = []mask.Set{0, 1, 2, 3, 1 << 15, 1 << 16, 1 << 30, 1 << 31, 1<<31 | 1, 3 << 30, 0x0000ffff, 0xffff0000, 0x55555555, 0xaaaaaaaa, 0x80c01235, every - 1, every >> 1, every}

// near are numbers in sets and outside of them, near to the bounds and far from them.
func near() []int {
	l := []int{math.MinInt, math.MinInt + 1, math.MinInt32, -1 << 32, -64, -33, -32, -31, 64, 63, 65, 95, 96, 255, 256, 1 << 31, 1 << 32, 1<<32 + 3, 1<<40 + 1, math.MaxInt - 1, math.MaxInt}
	for n := -2; n <= 34; n++ {
		l = append(l, n)
	}
	return l
}

// numbers: those whose bits are set, rising, told by the bits alone.
func numbers(s mask.Set) []int {
	var l []int
	for n := range 32 {
		if uint32(s)>>n&1 == 1 {
			l = append(l, n)
		}
	}
	return l
}

// bitsOf: the set whose bits are those of some numbers from 0 to 31.
func bitsOf(l []int) mask.Set {
	var s uint32
	for _, n := range l {
		s |= 1 << n
	}
	return mask.Set(s)
}

// kept: the numbers of which something holds.
func kept(l []int, keep func(int) bool) []int {
	return slices.DeleteFunc(slices.Clone(l), func(n int) bool { return !keep(n) })
}

// first: at most so many of what is ranged over.
func first[T any](l iter.Seq[T], most int) []T {
	var all []T
	if most == 0 {
		return all
	}
	for x := range l {
		all = append(all, x)
		if len(all) == most {
			break
		}
	}
	return all
}

// P3.1
func TestOf(t *testing.T) {
	for _, c := range []struct {
		l    []int
		want mask.Set
	}{
		{nil, 0},
		{[]int{}, 0},
		{[]int{0}, 1},
		{[]int{31}, 1 << 31},
		{[]int{0, 31}, 1<<31 | 1},
		{[]int{3, 1, 40}, 1<<3 | 1<<1},
		{[]int{5, 5, 5}, 1 << 5},
		{[]int{2, -1, 32, 7}, 1<<2 | 1<<7},
		{[]int{-1, 32, 33, 63, 64, 1 << 32, math.MinInt, math.MaxInt}, 0},
		{[]int{math.MinInt, 4, math.MaxInt, 4, 0}, 1<<4 | 1},
	} {
		given := slices.Clone(c.l)
		for range 2 {
			if got := mask.Of(c.l...); got != c.want {
				t.Errorf("Of(%v): %x, not %x", c.l, got, c.want)
			}
		}
		if !slices.Equal(c.l, given) {
			t.Errorf("Of changed %v to %v", given, c.l)
		}
	}
	if mask.Of() != 0 {
		t.Error("Of no numbers")
	}
	all := make([]int, 0, 34)
	for n := 33; n >= -1; n-- {
		all = append(all, n)
	}
	if mask.Of(all...) != every {
		t.Error("Of all numbers")
	}
	// What lies behind the list's length is not read.
	if mask.Of(all[:0]...) != 0 || mask.Of(all[2:3]...) != 1<<31 {
		t.Error("read behind the length")
	}
}

// P3.1
func TestHasWithWithout(t *testing.T) {
	for _, s := range some {
		in := numbers(s)
		for _, n := range near() {
			if got, want := s.Has(n), slices.Contains(in, n); got != want {
				t.Errorf("%x.Has(%d): %v", s, n, got)
			}
			with, without := s, bitsOf(kept(in, func(m int) bool { return m != n }))
			if n >= 0 && n < 32 {
				with = bitsOf(append(slices.Clone(in), n))
			}
			if got := s.With(n); got != with {
				t.Errorf("%x.With(%d): %x, not %x", s, n, got, with)
			}
			if got := s.Without(n); got != without {
				t.Errorf("%x.Without(%d): %x, not %x", s, n, got, without)
			}
		}
	}
}

// P3.1
func TestLenFirst(t *testing.T) {
	for _, s := range some {
		in := numbers(s)
		if got := s.Len(); got != len(in) {
			t.Errorf("%x.Len: %d, not %d", s, got, len(in))
		}
		want, ok := 0, false
		if len(in) > 0 {
			want, ok = in[0], true
		}
		if got, is := s.First(); got != want || is != ok {
			t.Errorf("%x.First: %d %v, not %d %v", s, got, is, want, ok)
		}
	}
	for n := range 32 {
		s := every << n // the least one is n
		if got, ok := s.First(); got != n || !ok || s.Len() != 32-n {
			t.Errorf("%x: First %d %v, Len %d", s, got, ok, s.Len())
		}
	}
}

// P3.2
func TestBelowAbove(t *testing.T) {
	for _, s := range some {
		in := numbers(s)
		for _, n := range near() {
			below := bitsOf(kept(in, func(m int) bool { return m < n }))
			if got := s.Below(n); got != below {
				t.Errorf("%x.Below(%d): %x, not %x", s, n, got, below)
			}
			above := bitsOf(kept(in, func(m int) bool { return m > n }))
			if got := s.Above(n); got != above {
				t.Errorf("%x.Above(%d): %x, not %x", s, n, got, above)
			}
		}
	}
}

// The chapter's example.
func TestExample(t *testing.T) {
	s := mask.Of(3, 1, 40)
	if n, ok := s.First(); n != 1 || !ok {
		t.Error(n, ok)
	}
	if s.Len() != 2 || s.Below(3) != mask.Of(1) {
		t.Error(s.Len(), s.Below(3))
	}
}

// P3.3
func TestAll(t *testing.T) {
	for _, s := range some {
		it, want := s.All(), numbers(s)
		for range 2 { // gone through again
			if got := slices.Collect(it); !slices.Equal(got, want) {
				t.Errorf("%x.All: %v, not %v", s, got, want)
			}
			for most := range len(want) + 2 { // left behind each one
				if got := first(it, most); !slices.Equal(got, want[:min(most, len(want))]) {
					t.Errorf("%x.All, left behind %d: %v", s, most, got)
				}
			}
		}
	}
}

// P3.3: a set is a value; what becomes of the variable later changes nothing.
func TestAllOfValue(t *testing.T) {
	s := mask.Of(1, 4)
	all, parts := s.All(), s.Parts()
	s = s.Without(4).With(9)
	if got := slices.Collect(all); !slices.Equal(got, []int{1, 4}) {
		t.Error(got)
	}
	if got := slices.Collect(parts); !slices.Equal(got, []mask.Set{0, 2, 16, 18}) {
		t.Error(got)
	}
	if s != mask.Of(1, 9) {
		t.Error(s)
	}
}

// P3.3: two that go through one set at once don't meet.
func TestNested(t *testing.T) {
	it, parts := mask.Of(0, 7, 31).All(), mask.Of(3, 31).Parts()
	var pairs [][2]int
	for a := range it {
		for b := range it {
			pairs = append(pairs, [2]int{a, b})
		}
	}
	if want := [][2]int{{0, 0}, {0, 7}, {0, 31}, {7, 0}, {7, 7}, {7, 31}, {31, 0}, {31, 7}, {31, 31}}; !slices.Equal(pairs, want) {
		t.Error(pairs)
	}
	many := 0
	for range parts {
		for range parts {
			many++
		}
	}
	if many != 16 {
		t.Error(many)
	}
}

// partsOf: all sets that are within one, rising, by their numbers' places.
func partsOf(s mask.Set) []mask.Set {
	in := numbers(s)
	var l []mask.Set
	for choice := range 1 << len(in) {
		l = append(l, bitsOf(kept(in, func(n int) bool { return choice>>slices.Index(in, n)&1 == 1 })))
	}
	return l
}

// P3.3
func TestParts(t *testing.T) {
	for _, s := range []mask.Set{0, 1, 1 << 31, 5, 1<<31 | 1, 3 << 30, 0x80000081, 0x0000000f, 0xf0000000, 0x80c01235, 0x10101010, 0x000003ff, 0xffc00000} {
		it, want := s.Parts(), partsOf(s)
		if !slices.IsSorted(want) {
			t.Fatalf("parts of %x don't rise", s)
		}
		for range 2 { // gone through again
			if got := slices.Collect(it); !slices.Equal(got, want) {
				t.Errorf("%x.Parts: %d of them, not %d: %x", s, len(got), len(want), got)
			}
		}
		for most := range min(len(want), 20) + 2 { // left behind each one
			if got := first(it, most); !slices.Equal(got, want[:min(most, len(want))]) {
				t.Errorf("%x.Parts, left behind %d: %x", s, most, got)
			}
		}
	}
	for range 2 {
		if got := first(every.Parts(), 5); !slices.Equal(got, []mask.Set{0, 1, 2, 3, 4}) {
			t.Error(got)
		}
	}
}

// P3.3: those of a set whose numbers are all the high ones end, too.
func TestManyParts(t *testing.T) {
	many, last := 0, mask.Set(0)
	for part := range mask.Set(0xfffff000).Parts() {
		if many > 0 && part <= last || part&0xfff != 0 {
			t.Fatalf("%x behind %x", part, last)
		}
		many, last = many+1, part
	}
	if many != 1<<20 || last != 0xfffff000 {
		t.Errorf("%d parts, the last one %x", many, last)
	}
}

// P1, rule 8: no iterator is nil.
func TestNone(t *testing.T) {
	if mask.Set(0).All() == nil || mask.Set(0).Parts() == nil {
		t.Error("a nil iterator")
	}
	for n := range mask.Set(0).All() {
		t.Error(n)
	}
	if got := slices.Collect(mask.Set(0).Parts()); !slices.Equal(got, []mask.Set{0}) {
		t.Error(got)
	}
}
