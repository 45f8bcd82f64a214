package header_test

import (
	"iter"
	"math/rand/v2"
	"slices"
	"testing"

	"remontoir/header"
	"remontoir/pair"
)

const blank = 0xffffffff

// heads are heads of all kinds: empty, full, ordinary, and such whose words are those of the other pairs.
var heads = []header.Head{
	{}, {Seq: 3, Long: 4, Check: 5}, {Seq: blank, Long: blank, Check: blank}, {Seq: 0, Long: blank, Check: 0}, {Seq: blank, Long: 0, Check: blank},
	{Seq: 1 << 31, Long: 4096, Check: 0xcbf43926}, {Seq: 0x636f6d6d, Long: 0x636f6d6d, Check: 0x636f6d6d}, {Seq: 0x636f6e66, Long: 1, Check: 0x9c909199},
	{Seq: 0x55555555, Long: 0xaaaaaaaa, Check: 0x0000ffff},
}

// committed: the words of a header, told without what writes them.
func committed(h header.Head) []uint32 {
	return []uint32{h.Seq, ^h.Seq, h.Long, ^h.Long, h.Check, ^h.Check, 0x636f6d6d, 0x9c909292, blank, blank, blank, blank, blank}
}

// confirmed: likewise, of one that is confirmed.
func confirmed(h header.Head) []uint32 {
	l := committed(h)
	l[8], l[9] = 0x636f6e66, 0x9c909199
	return l
}

// with: the words with another one at a place.
func with(l []uint32, at int, w uint32) []uint32 {
	l = slices.Clone(l)
	l[at] = w
	return l
}

// row: the writes of words one behind the other, from a place on.
func row(at int, l ...uint32) []header.Write {
	var all []header.Write
	for i, w := range l {
		all = append(all, header.Write{At: at + i, Word: w})
	}
	return all
}

func TestPlaces(t *testing.T) {
	got := []int{header.Seq, header.Long, header.Check, header.Commit, header.Confirm, header.Trial, header.Size, header.Committed, header.Confirmed}
	if !slices.Equal(got, []int{0, 2, 4, 6, 8, 10, 13, 0x636f6d6d, 0x636f6e66}) {
		t.Errorf("%x", got)
	}
}

// P7.1, rule 8: each of them goes through just its words, rising; left anywhere, it begins anew.
func TestWrites(t *testing.T) {
	goes := func(name string, got iter.Seq[header.Write], want []header.Write) {
		t.Helper()
		for most := range len(want) + 2 {
			var l []header.Write
			for w := range got {
				if len(l) == most {
					break
				}
				l = append(l, w)
			}
			if !slices.Equal(l, want[:min(most, len(want))]) {
				t.Errorf("%s, left behind %d: %x, not %x", name, most, l, want)
			}
		}
	}
	for _, h := range heads {
		l := committed(h)
		goes("Writes", h.Writes(), row(0, l[:6]...))
		goes("Writes of a state", header.State{Head: h, Valid: true, Trials: 2}.Writes(), row(0, l[:6]...))
	}
	goes("Commits", header.Commits(), row(6, 0x636f6d6d, 0x9c909292))
	goes("Confirms", header.Confirms(), row(8, 0x636f6e66, 0x9c909199))
}

// P7.1, P2: what goes through a head goes through that head, whatever becomes of it, also at once with another one.
func TestWritesApart(t *testing.T) {
	h := header.Head{Seq: 1, Long: 2, Check: 3}
	writes := h.Writes()
	h.Seq = 7
	other := h.Writes()
	for range writes {
		if got := slices.Collect(other); !slices.Equal(got, row(0, committed(h)[:6]...)) {
			t.Fatalf("%x", got)
		}
	}
	if got := slices.Collect(writes); !slices.Equal(got, row(0, 1, ^uint32(1), 2, ^uint32(2), 3, ^uint32(3))) {
		t.Errorf("%x", got)
	}
}

// read holds what Read tells against what is wanted.
func read(t *testing.T, l []uint32, want header.State) {
	t.Helper()
	for range 2 {
		if got := header.Read(l...); got != want {
			t.Errorf("Read(%x): %v, not %v", l, got, want)
		}
	}
}

// P7.2: a head is told if it is committed.
func TestRead(t *testing.T) {
	for _, h := range heads {
		read(t, committed(h), header.State{Head: h, Valid: true})
		read(t, confirmed(h), header.State{Head: h, Valid: true, Confirmed: true})
		for _, at := range []int{6, 7} {
			read(t, with(confirmed(h), at, blank), header.State{})
		}
		for _, at := range []int{8, 9} {
			read(t, with(confirmed(h), at, blank), header.State{Head: h, Valid: true})
		}
	}
}

// P7.2: with any bit turned of the first four pairs it isn't valid, of the fifth one not confirmed.
func TestReadTurned(t *testing.T) {
	for _, h := range heads {
		l := confirmed(h)
		for place := range 10 * 32 {
			turned := with(l, place/32, l[place/32]^1<<(place%32))
			want := header.State{}
			if place >= 8*32 {
				want = header.State{Head: h, Valid: true}
			}
			read(t, turned, want)
		}
	}
}

// P7.2: the pairs of Commit and Confirm must be those of their words, not just right; the other three just right.
func TestReadOtherPairs(t *testing.T) {
	h := header.Head{Seq: 3, Long: 4, Check: 5}
	for _, w := range []uint32{0, 1, blank, 0x636f6d6c, 0x636f6d6d ^ 1<<31, ^uint32(0x636f6d6d), 0x636f6e66, 0x636f6d6d} {
		l := confirmed(h)
		l[6], l[7] = w, ^w
		if w == 0x636f6d6d {
			read(t, l, header.State{Head: h, Valid: true, Confirmed: true})
		} else {
			read(t, l, header.State{})
		}
		l = committed(h)
		l[8], l[9] = w, ^w
		read(t, l, header.State{Head: h, Valid: true, Confirmed: w == 0x636f6e66})
	}
	for _, at := range []int{0, 2, 4} {
		for _, w := range []uint32{0, 1, 77, blank} {
			l := committed(h)
			l[at], l[at+1] = w, ^w
			want := h
			*[]*uint32{&want.Seq, &want.Long, &want.Check}[at/2] = w
			read(t, l, header.State{Head: want, Valid: true})
			l[at+1] = w // not beside its counterpart
			read(t, l, header.State{})
		}
	}
}

// P7.2: what is missing is Blank, and what is behind the end counts for nothing.
func TestReadLong(t *testing.T) {
	for _, h := range heads {
		all := confirmed(h)
		all[10], all[12] = 0, 6
		for n := range len(all) + 1 {
			cut := slices.Concat(all[:n], slices.Repeat([]uint32{blank}, 13-n))
			want := header.Read(cut...)
			if want.Valid != (n >= 8) || want.Confirmed != (n >= 10) || (want.Head == h) != (n >= 8 || h == header.Head{}) {
				t.Errorf("Read(%x): %v", cut, want)
			}
			if trials := []int{0, 1, 1, 2}[max(n-10, 0)]; want.Trials != trials {
				t.Errorf("Read(%x): %d trials, not %d", cut, want.Trials, trials)
			}
			read(t, all[:n], want) // what lies behind the list's length is right, but not the list's
			at, ok := header.NextTrial(cut...)
			if got, is := header.NextTrial(all[:n]...); got != at || is != ok {
				t.Errorf("NextTrial(%x): %d %v, not %d %v", all[:n], got, is, at, ok)
			}
		}
		for _, more := range []int{1, 2, 3, 1011, 5000} {
			for _, w := range []uint32{0, 7, blank} {
				long := slices.Concat(all, slices.Repeat([]uint32{w}, more))
				read(t, long, header.State{Head: h, Valid: true, Confirmed: true, Trials: 2})
				if at, ok := header.NextTrial(long...); at != 11 || !ok {
					t.Errorf("NextTrial(%x): %d %v", long[:14], at, ok)
				}
			}
		}
	}
	read(t, slices.Repeat([]uint32{0}, 13), header.State{Trials: 3})
}

// P7.2: trials are counted wherever they are, of what isn't valid too; the next one is the first that is Blank.
func TestTrials(t *testing.T) {
	h := header.Head{Seq: 9, Long: 8, Check: 7}
	for _, w := range []uint32{0, 1, 0xfffffffe, 0x7fffffff} {
		for set := range 8 {
			trials, next := 0, 0
			l := committed(h)
			for i := 2; i >= 0; i-- {
				if set>>i&1 == 1 {
					l[10+i] = w
					trials++
				} else {
					next = 10 + i
				}
			}
			read(t, l, header.State{Head: h, Valid: true, Trials: trials})
			read(t, with(l, 0, 5), header.State{Trials: trials})
			for _, other := range [][]uint32{l, with(l, 0, 5), with(l, 9, 0)} {
				if at, ok := header.NextTrial(other...); at != next || ok != (set < 7) {
					t.Errorf("NextTrial(%x): %d %v, not %d", other, at, ok, next)
				}
			}
		}
	}
}

// The chapter's example; P1: of nothing there is a next trial.
func TestNothing(t *testing.T) {
	read(t, nil, header.State{})
	read(t, []uint32{}, header.State{})
	if at, ok := header.NextTrial(); at != 10 || !ok {
		t.Error(at, ok)
	}
}

// Rule 5: the words that are handed in stay as they are.
func TestKept(t *testing.T) {
	l := confirmed(header.Head{Seq: 1})
	room := append(slices.Clone(l[:4]), 11, 12)
	was, behind := slices.Clone(l), slices.Clone(room)
	header.Read(l...)
	header.NextTrial(l...)
	header.Read(room[:4]...)
	header.NextTrial(room[:4]...)
	if !slices.Equal(l, was) || !slices.Equal(room, behind) {
		t.Errorf("%x, %x", l, room)
	}
}

// P7.3: whatever is left of the word in which the power goes, only the head that was written is read, and only behind the last word of its pair.
func TestCutOff(t *testing.T) {
	r := rand.New(rand.NewPCG(7, 3))
	masks := []uint32{0, blank, 0x0000ffff, 0xffff0000}
	for place := range 32 {
		masks = append(masks, 1<<place, ^(1 << place))
	}
	for range 200 {
		masks = append(masks, r.Uint32(), r.Uint32()&r.Uint32(), r.Uint32()|r.Uint32())
	}
	for _, h := range heads {
		cutOff(t, h, masks)
	}
	for range 20 {
		cutOff(t, header.Head{Seq: r.Uint32(), Long: r.Uint32(), Check: r.Uint32()}, masks)
	}
}

// cutOff programs a head's words, and cuts each of them off in turn.
func cutOff(t *testing.T, h header.Head, masks []uint32) {
	t.Helper()
	l := slices.Repeat([]uint32{blank}, header.Size)
	for w := range join(h.Writes(), header.Commits(), header.Confirms()) {
		for _, mask := range masks {
			left := with(l, w.At, pair.Falls(l[w.At], w.Word, mask))
			whole := left[w.At] == w.Word
			valid := w.At > 7 || w.At == 7 && whole
			want := header.State{Valid: valid, Confirmed: w.At == 9 && whole}
			if valid {
				want.Head = h
			}
			read(t, left, want)
		}
		l[w.At] = w.Word
	}
	if !slices.Equal(l, confirmed(h)) {
		t.Errorf("%x", l)
	}
}

// join goes through iterators one behind the other.
func join(all ...iter.Seq[header.Write]) iter.Seq[header.Write] {
	return func(yield func(header.Write) bool) {
		for _, l := range all {
			for w := range l {
				if !yield(w) {
					return
				}
			}
		}
	}
}
