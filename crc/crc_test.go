package crc_test

import (
	"hash/crc32"
	"math/rand/v2"
	"slices"
	"testing"

	"remontoir/crc"
)

// sum: the sum of some bytes, made one by one.
func sum(l []byte) uint32 {
	var s crc.Sum
	for _, b := range l {
		s.Byte(b)
	}
	return s.Value()
}

// texts are of all kinds: none, one byte, noughts, all bits, longer ones.
func texts() [][]byte {
	l := [][]byte{nil, {0}, {1}, {0x80}, {255}, {0, 0, 0, 0}, {255, 255, 255, 255}, []byte("123456789"), []byte("a"), []byte("remontoir")}
	r := rand.New(rand.NewPCG(4, 1))
	for n := range 40 {
		b := make([]byte, n*n)
		for i := range b {
			b[i] = byte(r.Uint32())
		}
		l = append(l, b)
	}
	return l
}

// The chapter's example.
func TestExample(t *testing.T) {
	if got := sum([]byte("123456789")); got != 0xcbf43926 {
		t.Errorf("%x", got)
	}
}

// P4.1: of no bytes, all bits are set at first and turned at last.
func TestNone(t *testing.T) {
	var s crc.Sum
	if s.Value() != 0 || s.Many() != 0 || crc.Words() != 0 || crc.Words(nil...) != 0 || crc.Words([]uint32{}...) != 0 {
		t.Errorf("%x %d %x", s.Value(), s.Many(), crc.Words())
	}
}

// P4.1
func TestByte(t *testing.T) {
	for b := range 256 {
		if got, want := sum([]byte{byte(b)}), crc32.ChecksumIEEE([]byte{byte(b)}); got != want {
			t.Errorf("%d: %x, not %x", b, got, want)
		}
	}
	for _, l := range texts() {
		var s crc.Sum
		for i, b := range l {
			if s.Value() != crc32.ChecksumIEEE(l[:i]) || s.Many() != i {
				t.Fatalf("%x: %x behind %d bytes (%d)", l, s.Value(), i, s.Many())
			}
			s.Byte(b)
		}
		for range 2 { // asked for again, it is the same
			if s.Value() != crc32.ChecksumIEEE(l) || s.Many() != len(l) {
				t.Errorf("%x: %x behind all (%d)", l, s.Value(), s.Many())
			}
		}
	}
}

// P4.1: the highest byte of a word is ahead.
func TestWord(t *testing.T) {
	for _, w := range []uint32{0, 1, 0x80000000, 0xffffffff, 0x01020304, 0x000000ff, 0xff000000, 0x31323334, 0xdeadbeef} {
		var words, bytes crc.Sum
		words.Byte('x')
		words.Word(w)
		for _, b := range []byte{'x', byte(w >> 24), byte(w >> 16), byte(w >> 8), byte(w)} {
			bytes.Byte(b)
		}
		if words.Value() != bytes.Value() || words.Many() != 5 {
			t.Errorf("%x: %x, not %x (%d)", w, words.Value(), bytes.Value(), words.Many())
		}
	}
}

// P4.1
func TestWords(t *testing.T) {
	l := []uint32{0x31323334, 0x35363738, 0, 0xffffffff, 7}
	for n := range len(l) + 1 {
		var s crc.Sum
		var bytes []byte
		for _, w := range l[:n] {
			s.Word(w)
			bytes = append(bytes, byte(w>>24), byte(w>>16), byte(w>>8), byte(w))
		}
		given := slices.Clone(l)
		for range 2 {
			if got := crc.Words(l[:n]...); got != s.Value() || got != crc32.ChecksumIEEE(bytes) {
				t.Errorf("Words(%x): %x, not %x", l[:n], got, s.Value())
			}
		}
		if !slices.Equal(given, l) {
			t.Errorf("changed: %x", l)
		}
		if s.Many() != 4*n {
			t.Errorf("Many: %d of %d words", s.Many(), n)
		}
	}
}

// P2: two sums don't meet, and what was copied goes on alone.
func TestApart(t *testing.T) {
	var a, b crc.Sum
	a.Byte('1')
	b.Byte('9')
	a.Byte('2')
	c := a
	c.Byte('3')
	if a.Value() != crc32.ChecksumIEEE([]byte("12")) || b.Value() != crc32.ChecksumIEEE([]byte("9")) || c.Value() != crc32.ChecksumIEEE([]byte("123")) {
		t.Errorf("%x %x %x", a.Value(), b.Value(), c.Value())
	}
	if a.Many() != 2 || b.Many() != 1 || c.Many() != 3 {
		t.Error(a.Many(), b.Many(), c.Many())
	}
}

// P4.2
func TestTurnedBit(t *testing.T) {
	for _, l := range texts()[:20] {
		was := sum(l)
		for i := range 8 * len(l) {
			turned := slices.Clone(l)
			turned[i/8] ^= 1 << (i % 8)
			if sum(turned) == was {
				t.Errorf("%x: the bit %d is turned, but not the sum", l, i)
			}
		}
	}
}

// P4.2: an odd number of texts has the sum of the texts together; an even one has that, and the sum of noughts.
func TestTogether(t *testing.T) {
	r := rand.New(rand.NewPCG(4, 2))
	for _, length := range []int{0, 1, 4, 9, 64} {
		noughts := sum(make([]byte, length))
		for many := 1; many <= 6; many++ {
			together, sums := make([]byte, length), uint32(0)
			for range many {
				l := make([]byte, length)
				for i := range l {
					l[i] = byte(r.Uint32())
					together[i] ^= l[i]
				}
				sums ^= sum(l)
			}
			want := sum(together)
			if many%2 == 0 {
				want ^= noughts
			}
			if sums != want {
				t.Errorf("%d texts of %d bytes: %x, not %x", many, length, sums, want)
			}
		}
	}
}
