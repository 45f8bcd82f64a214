package pair_test

import (
	"slices"
	"testing"

	"remontoir/pair"
)

// some are words of all kinds: the empty one, both ends, mixtures, all bits.
var some = []uint32{0, 1, 2, 3, 7, 8, 1 << 15, 1 << 16, 1 << 30, 1 << 31, 1<<31 | 1, 0x0000ffff, 0xffff0000, 0x55555555, 0xaaaaaaaa, 0x636f6d6d, 0x636f6e66, 0x31323334, 0x7fffffff, 0xfffffffe, pair.Blank}

// spread: a number of four bits, laid out to the ends and the middle of a word.
func spread(n int) uint32 {
	var w uint32
	for i, at := range []int{0, 15, 16, 31} {
		w |= uint32(n>>i&1) << at
	}
	return w
}

// eachBit: does something hold of each place of a bit?
func eachBit(holds func(place int) bool) bool {
	for place := range 32 {
		if !holds(place) {
			return false
		}
	}
	return true
}

// has: is the bit at a place set?
func has(w uint32, place int) bool {
	return w>>place&1 == 1
}

// made: the word that has the bits of which something holds.
func made(holds func(place int) bool) uint32 {
	var w uint32
	for place := range 32 {
		if holds(place) {
			w |= 1 << place
		}
	}
	return w
}

// turned: a pair with one bit of its 64 turned.
func turned(p pair.Pair, place int) pair.Pair {
	if place < 32 {
		p.Word ^= 1 << place
	} else {
		p.Other ^= 1 << (place - 32)
	}
	return p
}

func TestBlank(t *testing.T) {
	if w := uint32(pair.Blank); w != 0xffffffff {
		t.Errorf("%x", w)
	}
}

// P5.1
func TestOf(t *testing.T) {
	for _, w := range some {
		for range 2 { // P2: the same each time
			p := pair.Of(w)
			if p.Word != w || !eachBit(func(i int) bool { return has(p.Other, i) != has(w, i) }) {
				t.Errorf("Of(%x): %x", w, p)
			}
		}
	}
	if pair.Of(0) != (pair.Pair{Word: 0, Other: pair.Blank}) || pair.Of(pair.Blank) != (pair.Pair{Word: pair.Blank, Other: 0}) {
		t.Error(pair.Of(0), pair.Of(pair.Blank))
	}
}

// P5.1
func TestRightIs(t *testing.T) {
	for _, w := range some {
		p := pair.Of(w)
		if !p.Right() || !p.Is(w) {
			t.Errorf("%x: Right %v, Is %v", p, p.Right(), p.Is(w))
		}
		for _, other := range some {
			if other != w && p.Is(other) {
				t.Errorf("%x is that of %x", p, other)
			}
		}
		for place := range 64 {
			bad := turned(p, place)
			if bad.Right() || bad.Is(w) || bad.Is(bad.Word) || bad.Is(^bad.Other) {
				t.Errorf("%x is right, or that of %x, or its own", bad, w)
			}
			both := turned(bad, (place+32)%64) // the same bit of both: right again, but that of another word
			if !both.Right() || both.Is(w) || !both.Is(both.Word) {
				t.Errorf("%x: Right %v, Is %v", both, both.Right(), both.Is(w))
			}
		}
	}
}

// P5.1: pairs that are none.
func TestWrong(t *testing.T) {
	for _, p := range []pair.Pair{{}, {Word: pair.Blank, Other: pair.Blank}, {Word: 7, Other: 7}, {Word: 7}, {Other: 7}, {Word: 1, Other: pair.Blank}, {Word: 0, Other: 1}, {Word: 0xffff, Other: 0xffff}} {
		if p.Right() || p.Is(p.Word) || p.Is(^p.Other) || p.Is(0) || p.Is(pair.Blank) {
			t.Errorf("%x", p)
		}
	}
}

// P5.2
func TestFellRose(t *testing.T) {
	for a := range 16 {
		for b := range 16 {
			for c := range 16 {
				was, target, is := spread(a), spread(b), spread(c)
				want := eachBit(func(i int) bool { return (!has(is, i) || has(was, i)) && (!has(target, i) || has(is, i)) })
				if got := pair.Fell(was, target, is); got != want {
					t.Errorf("Fell(%x, %x, %x): %v", was, target, is, got)
				}
			}
			was, is := spread(a), spread(b)
			want := eachBit(func(i int) bool { return !has(was, i) || has(is, i) })
			if got := pair.Rose(was, is); got != want {
				t.Errorf("Rose(%x, %x): %v", was, is, got)
			}
		}
	}
}

// P5.2: one bit tells, wherever it is.
func TestFellRoseBit(t *testing.T) {
	for place := range 32 {
		bit := uint32(1) << place
		for _, c := range []struct {
			was, target, is uint32
			fell, rose      bool
		}{
			{bit, 0, bit, true, true}, {bit, 0, 0, true, false}, {bit, bit, bit, true, true}, {bit, bit, 0, false, false},
			{0, 0, bit, false, true}, {0, bit, bit, false, true}, {0, bit, 0, false, true}, {0, 0, 0, true, true},
			{pair.Blank, ^bit, ^bit, true, false}, {pair.Blank, ^bit, pair.Blank, true, true}, {pair.Blank, bit, ^bit, false, false}, {^bit, 0, pair.Blank, false, true},
		} {
			if pair.Fell(c.was, c.target, c.is) != c.fell || pair.Rose(c.was, c.is) != c.rose {
				t.Errorf("%x, %x, %x: Fell %v, Rose %v", c.was, c.target, c.is, !c.fell, pair.Rose(c.was, c.is))
			}
		}
	}
}

// P5.2
func TestFallsRises(t *testing.T) {
	for _, c := range []struct{ was, target, mask, want uint32 }{{6, 2, 4, 6}, {6, 2, 0, 2}, {6, 2, 9, 2}, {6, 9, 0, 0}, {6, 9, 4, 4}, {0, 15, 15, 0}, {pair.Blank, 0, 0, 0}, {pair.Blank, 5, 0, 5}, {pair.Blank, 5, pair.Blank, pair.Blank}} {
		if got := pair.Falls(c.was, c.target, c.mask); got != c.want {
			t.Errorf("Falls(%x, %x, %x): %x", c.was, c.target, c.mask, got)
		}
	}
	for _, was := range some {
		for _, mask := range some {
			want := made(func(i int) bool { return has(was, i) || has(mask, i) })
			if got := pair.Rises(was, mask); got != want || !pair.Rose(was, got) {
				t.Errorf("Rises(%x, %x): %x, not %x", was, mask, got, want)
			}
			for _, target := range some {
				want := made(func(i int) bool { return has(was, i) && (has(target, i) || has(mask, i)) })
				got := pair.Falls(was, target, mask)
				if got != want {
					t.Errorf("Falls(%x, %x, %x): %x, not %x", was, target, mask, got, want)
				}
				if target&^was == 0 && !pair.Fell(was, target, got) {
					t.Errorf("%x, that fell to %x, didn't fall", was, got)
				}
			}
		}
	}
}

// next: so many masks.
func next(m *pair.Masks, many int) []uint32 {
	var l []uint32
	for range many {
		l = append(l, m.Next())
	}
	return l
}

// P5.3
func TestMasks(t *testing.T) {
	for _, want := range [][]uint32{
		{1, 270369, 67634689, 2647435461, 307599695, 2398689233, 745495504},
		{2, 540738, 134253570, 697882754, 1670953222, 3819972634, 818967331},
		{0x80000000, 0x80084000, 0x89088484, 0xaa914148, 0xd5b80294, 0x68b7e441, 0x13ce459e},
		{0xffffffff, 0x3e01f, 0xfc07fdff, 0x74bb9843, 0xf1cc88da, 0x7a28ee91, 0x98a550ec},
		{0x31323334, 0x9dc59b5e, 0xfb67cd29, 0x5a9f6548, 0x70f1f433, 0x8081d208, 0xe2d16268},
	} {
		for range 2 { // P2: each time from the first one on
			m := pair.Seeded(want[0])
			if got := next(&m, len(want)); !slices.Equal(got, want) {
				t.Errorf("of %x: %x, not %x", want[0], got, want)
			}
		}
	}
	for _, seed := range some {
		m := pair.Seeded(seed)
		first, was := true, uint32(0)
		for range 1000 {
			got := m.Next()
			want := max(seed, 1)
			if !first {
				turned := was ^ was<<13
				turned ^= turned >> 17
				want = turned ^ turned<<5
			}
			if got != want {
				t.Fatalf("of %x: %x behind %x, not %x", seed, got, was, want)
			}
			first, was = false, got
		}
	}
}

// P5.3: of the seed 0 those of 1.
func TestSeedNought(t *testing.T) {
	a, b := pair.Seeded(0), pair.Seeded(1)
	if got, want := next(&a, 100), next(&b, 100); !slices.Equal(got, want) || got[0] != 1 || slices.Contains(got, 0) {
		t.Errorf("%x, not %x", got, want)
	}
}

// P2: two of them don't meet, and what was copied goes on alone.
func TestMasksApart(t *testing.T) {
	a, b := pair.Seeded(1), pair.Seeded(2)
	if a.Next() != 1 || b.Next() != 2 || a.Next() != 270369 {
		t.Error("two seeds")
	}
	c := a
	if got := next(&c, 2); !slices.Equal(got, []uint32{67634689, 2647435461}) {
		t.Error(got)
	}
	if a.Next() != 67634689 || b.Next() != 540738 || c.Next() != 307599695 {
		t.Error("a copy")
	}
}

// pairs: all pairs of words of four bits, the rest of each as it is in one that is right.
func pairs() []pair.Pair {
	var l []pair.Pair
	for a := range 16 {
		for b := range 16 {
			l = append(l, pair.Pair{Word: 0x00320000 | spread(a), Other: 0x7fcc7ffe | spread(b)})
		}
	}
	return l
}

// P5.4: cleared, towards a pair that is right, or from one that is.
func TestCleared(t *testing.T) {
	many := 0
	for _, was := range pairs() {
		for _, target := range pairs() {
			if !was.Right() && !target.Right() {
				continue
			}
			for _, is := range pairs() {
				if !pair.Fell(was.Word, target.Word, is.Word) || !pair.Fell(was.Other, target.Other, is.Other) {
					continue
				}
				many++
				want := is == was && was.Right() || is == target && target.Right()
				if is.Right() != want {
					t.Errorf("%x, that fell from %x towards %x: Right %v", is, was, target, is.Right())
				}
			}
		}
	}
	if many < 1000 {
		t.Error(many)
	}
}

// P5.4: set, from a pair that is right.
func TestSet(t *testing.T) {
	many := 0
	for _, was := range pairs() {
		if !was.Right() {
			continue
		}
		for _, is := range pairs() {
			if !pair.Rose(was.Word, is.Word) || !pair.Rose(was.Other, is.Other) {
				continue
			}
			many++
			if is.Right() != (is == was) {
				t.Errorf("%x, that rose from %x: Right %v", is, was, is.Right())
			}
		}
	}
	if many != 16*16 {
		t.Error(many)
	}
}

// P5.4: whichever mask a cut leaves, of words that are programmed one behind the other, and of those that are erased.
func TestCut(t *testing.T) {
	for _, w := range some {
		for seed := range uint32(50) {
			m := pair.Seeded(seed)
			for range 20 {
				target, mask := pair.Of(w), m.Next()
				first := pair.Pair{Word: pair.Falls(pair.Blank, w, mask), Other: pair.Blank}
				if first.Right() != (first == target) {
					t.Errorf("%x on the way to %x", first, target)
				}
				second := pair.Pair{Word: w, Other: pair.Falls(pair.Blank, target.Other, mask)}
				if second.Right() != (second == target) {
					t.Errorf("%x on the way to %x", second, target)
				}
				erased := pair.Pair{Word: pair.Rises(w, mask), Other: pair.Rises(target.Other, m.Next())}
				if erased.Right() != (erased == target) {
					t.Errorf("%x, erased from %x", erased, target)
				}
			}
		}
	}
}

// The chapter's examples.
func TestExamples(t *testing.T) {
	if pair.Of(0).Other != pair.Blank || pair.Falls(6, 2, 4) != 6 || pair.Falls(6, 2, 0) != 2 {
		t.Error("the examples")
	}
}
