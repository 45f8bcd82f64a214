package journal_test

import (
	"math"
	"math/rand/v2"
	"slices"
	"testing"

	"remontoir/api"
	"remontoir/flash"
	"remontoir/journal"
)

const blank = 0xffffffff

// seeds: masks that leave all, or nearly none, of what an operation turns, and others.
var seeds = []uint32{blank, 1, 2, 0x80000000, 0x0000ffff, 0xffff0000, 0x55555555, 77, 0xdeadbeef, 0}

// device: one that may be.
func device(t *testing.T, sectors, words, limit int) *flash.Device {
	t.Helper()
	d, e := flash.New(sectors, words, limit)
	if d == nil || e != api.OK {
		t.Fatalf("flash.New(%d, %d, %d): %v", sectors, words, limit, e)
	}
	return d
}

// of: the journal of some sectors of a device that may have one.
func of(t *testing.T, d *flash.Device, base, many int) *journal.Journal {
	t.Helper()
	j, e := journal.Open(d, base, many)
	if j == nil || e != api.OK {
		t.Fatalf("Open(%d, %d): %v", base, many, e)
	}
	return j
}

// small: a device of five sectors of 14 words, and the journal of its sectors 1 to 3, each of which has three places.
func small(t *testing.T) (*flash.Device, *journal.Journal) {
	t.Helper()
	d := device(t, 5, 14, 1000)
	return d, of(t, d, 1, 3)
}

// ok holds errors against OK.
func ok(t *testing.T, l ...api.Errno) {
	t.Helper()
	for i, e := range l {
		if e != api.OK {
			t.Fatalf("call %d: %v", i, e)
		}
	}
}

// is holds errors against another one.
func is(t *testing.T, want api.Errno, l ...api.Errno) {
	t.Helper()
	for i, e := range l {
		if e != want {
			t.Fatalf("call %d: %v, not %v", i, e, want)
		}
	}
}

// fill adds entries, one for each word.
func fill(t *testing.T, j *journal.Journal, l ...uint32) {
	t.Helper()
	for _, w := range l {
		ok(t, j.Add(w))
	}
}

// row: so many words from one on.
func row(from uint32, many int) []uint32 {
	var l []uint32
	for i := range many {
		l = append(l, from+uint32(i))
	}
	return l
}

// entries: some words, numbered from one on.
func entries(seq uint32, l ...uint32) []journal.Entry {
	var all []journal.Entry
	for i, w := range l {
		all = append(all, journal.Entry{Seq: seq + uint32(i), Word: w})
	}
	return all
}

// hold holds the entries that are there, and the next one's number, against those that are to be; each twice (P2, rule 8).
func hold(t *testing.T, j *journal.Journal, next uint32, want ...journal.Entry) {
	t.Helper()
	l := j.All()
	for range 2 {
		if got := slices.Collect(l); !slices.Equal(got, want) {
			t.Fatalf("All: %v, not %v", got, want)
		}
		if got := j.Next(); got != next {
			t.Fatalf("Next: %d, not %d", got, next)
		}
	}
}

// all: all words of a device, and how worn its sectors are.
func all(d *flash.Device) []uint32 {
	l := []uint32{uint32(d.Ops())}
	for i := range d.Sectors() {
		l = append(l, uint32(d.Worn(i)))
		l = append(l, d.Sector(i)...)
	}
	return l
}

// at: the words of a place.
func at(d *flash.Device, sector, place int) []uint32 {
	return d.Sector(sector)[4*place : 4*place+4]
}

// isAt holds the words of a place against those of an entry.
func isAt(t *testing.T, d *flash.Device, sector, place int, seq, w uint32) {
	t.Helper()
	if got := at(d, sector, place); !slices.Equal(got, []uint32{w, ^w, seq, ^seq}) {
		t.Fatalf("sector %d, place %d: %x, not %d %x", sector, place, got, seq, w)
	}
}

// isBlank: is there nothing in a place?
func isBlank(t *testing.T, d *flash.Device, sector, place int) {
	t.Helper()
	if got := at(d, sector, place); !slices.Equal(got, []uint32{blank, blank, blank, blank}) {
		t.Fatalf("sector %d, place %d: %x, not blank", sector, place, got)
	}
}

// isWorn holds how often each sector was erased.
func isWorn(t *testing.T, d *flash.Device, want ...int) {
	t.Helper()
	for i, n := range want {
		if d.Worn(i) != n {
			t.Fatalf("sector %d was erased %d times, not %d", i, d.Worn(i), n)
		}
	}
}

// write programs words, from one of a sector on.
func write(t *testing.T, d *flash.Device, sector, word int, l ...uint32) {
	t.Helper()
	for i, w := range l {
		ok(t, d.Program(sector, word+i, w))
	}
}

// put programs an entry into a place.
func put(t *testing.T, d *flash.Device, sector, place int, seq, w uint32) {
	t.Helper()
	write(t, d, sector, 4*place, w, ^w, seq, ^seq)
}

// cut has the power go in an Add, and come again.
func cut(t *testing.T, d *flash.Device, j *journal.Journal, w uint32, after int, seed uint32) {
	t.Helper()
	d.Arm(api.Cut{After: after, Seed: seed})
	is(t, api.ErrCut, j.Add(w))
	if d.On() {
		t.Fatal("the power is there")
	}
	d.Power(true)
}

// P47.1: wherever the sectors are, and however many.
func TestOpen(t *testing.T) {
	if journal.MaxSeq != 1<<30 {
		t.Error(uint32(journal.MaxSeq))
	}
	far := []int{-1, -2, -64, 1 << 31, 1 << 32, 1<<32 + 2, -1 << 32, math.MinInt32, math.MinInt, math.MinInt + 1, math.MaxInt - 1, math.MaxInt}
	for _, sectors := range []int{1, 2, 3, 7, 63, 64} {
		for _, words := range []int{1, 2, 3, 4, 5, 7, 8, 1023, 1024} {
			d := device(t, sectors, words, 1)
			for _, base := range append([]int{0, 1, 2, 5, 61, 62, 63, 64, 65}, far...) {
				for _, many := range append([]int{0, 1, 2, 3, 7, 62, 63, 64, 65}, far...) {
					j, e := journal.Open(d, base, many)
					if many < 2 || many > 64 || base < 0 || base > 64 || base+many > sectors || words < 4 {
						if j != nil || e != api.ErrSize {
							t.Errorf("%d sectors of %d words, from %d on %d: %v, %v", sectors, words, base, many, j, e)
						}
						continue
					}
					if j == nil || e != api.OK || j.Next() != 1 || j.Keeps() != (many-1)*(words/4) {
						t.Errorf("%d sectors of %d words, from %d on %d: %v, %v", sectors, words, base, many, j, e)
					}
				}
			}
			if d.Ops() != 0 {
				t.Error("Open turns something")
			}
		}
	}
	for _, d := range []*flash.Device{nil, new(flash.Device)} {
		if j, e := journal.Open(d, 0, 2); j != nil || e != api.ErrSize {
			t.Errorf("%v, %v", j, e)
		}
	}
}

// P47.1: without power there is none; where there may be none, that goes ahead.
func TestOpenCut(t *testing.T) {
	d := device(t, 4, 8, 1)
	d.Power(false)
	if j, e := journal.Open(d, 0, 4); j != nil || e != api.ErrCut {
		t.Errorf("%v, %v", j, e)
	}
	for _, c := range [][2]int{{0, 5}, {0, 1}, {3, 2}, {-1, 2}} {
		if j, e := journal.Open(d, c[0], c[1]); j != nil || e != api.ErrSize {
			t.Errorf("%v: %v, %v", c, j, e)
		}
	}
	if j, e := journal.Open(new(flash.Device), 0, 2); j != nil || e != api.ErrSize {
		t.Errorf("%v, %v", j, e)
	}
	d.Power(true)
	hold(t, of(t, d, 0, 4), 1)
}

// The chapter's example.
func TestExample(t *testing.T) {
	_, j := small(t)
	ok(t, j.Add(7), j.Add(8))
	hold(t, j, 3, journal.Entry{Seq: 1, Word: 7}, journal.Entry{Seq: 2, Word: 8})
}

// P47.2, the chapter's words: place by place, sector by sector, round; each sector but the first one is erased ahead of its first entry, also a blank one; others than the journal's stay.
func TestRound(t *testing.T) {
	for _, again := range []bool{false, true} {
		d, j := small(t)
		for n := uint32(1); n <= 60; n++ {
			ops := d.Ops()
			ok(t, j.Add(100+n))
			if again {
				j = of(t, d, 1, 3)
			}
			full := int(n-1) / 3 // how many sectors were filled
			sector, place := 1+full%3, int(n-1)%3
			isAt(t, d, sector, place, n, 100+n)
			for p := place + 1; p < 3; p++ {
				isBlank(t, d, sector, p)
			}
			want := 4
			if place == 0 && full > 0 {
				want = 5 // the erasing, too
			}
			if d.Ops()-ops != want {
				t.Fatalf("entry %d: %d operations", n, d.Ops()-ops)
			}
			isWorn(t, d, 0, full/3, (full+2)/3, (full+1)/3, 0)
			keep := min(int(n), 6+place+1) // two sectors, and what is in this one
			hold(t, j, n+1, entries(n+1-uint32(keep), row(101+n-uint32(keep), keep)...)...)
			if keep < min(int(n), j.Keeps()) {
				t.Fatalf("entry %d: %d are there", n, keep)
			}
		}
		for i := range 5 {
			if l := d.Sector(i); i == 0 || i == 4 {
				if !slices.Equal(l, slices.Repeat([]uint32{blank}, 14)) {
					t.Errorf("sector %d: %x", i, l)
				}
			} else if l[12] != blank || l[13] != blank {
				t.Errorf("sector %d: %x", i, l[12:])
			}
		}
	}
}

// P47.2: in a journal as small, and as great, as may be.
func TestSizes(t *testing.T) {
	for _, c := range [][3]int{{2, 4, 2}, {2, 7, 2}, {3, 8, 2}, {64, 4, 64}, {64, 1024, 64}} {
		d := device(t, c[0], c[1], 1<<20)
		base := c[0] - c[2]
		j := of(t, d, base, c[2])
		per := c[1] / 4
		many := min(3*per*c[2]+1, 700)
		for n := range many {
			ok(t, j.Add(uint32(n)))
			isAt(t, d, base+n/per%c[2], n%per, uint32(n+1), uint32(n))
		}
		keep := min(many, (c[2]-1)*per+(many-1)%per+1)
		hold(t, j, uint32(many+1), entries(uint32(many-keep+1), row(uint32(many-keep), keep)...)...)
	}
}

// P47.2: whatever the word is.
func TestWords(t *testing.T) {
	for _, w := range []uint32{0, 1, 2, blank, blank - 1, 1 << 31, 0x7fffffff, 0xffff, 0xffff0000, 0x55555555, 1 << 30, 1<<30 + 1} {
		d, j := small(t)
		fill(t, j, w, w, w)
		want := entries(1, w, w, w)
		hold(t, j, 4, want...)
		hold(t, of(t, d, 1, 3), 4, want...)
		for i := range 3 {
			isAt(t, d, 1, i, uint32(i+1), w)
		}
	}
}

// P47.2: in the order word, counterpart, number, counterpart; where it needs one, the erasing comes first.
func TestOrder(t *testing.T) {
	whole := []uint32{0x1234, ^uint32(0x1234), 4, ^uint32(4)}
	for after := range 5 {
		d, j := small(t)
		fill(t, j, 1, 2, 3)
		write(t, d, 2, 0, 0, 0, 0, 0)
		cut(t, d, j, 0x1234, after, blank)
		want := slices.Repeat([]uint32{blank}, 4)
		copy(want, whole[:max(after-1, 0)]) // of a word that is programmed the first mask leaves all
		if after == 0 {
			want = []uint32{blank, 0x3e01f, 0xfc07fdff, 0x74bb9843} // what is erased has the masks' bits
		}
		if got := at(d, 2, 0); !slices.Equal(got, want) {
			t.Errorf("behind %d: %x, not %x", after, got, want)
		}
	}
}

// P47.2: there is no number behind MaxSeq; that goes ahead of no power, and nothing is turned.
func TestSeq(t *testing.T) {
	for _, seq := range []uint32{1, 2, 1<<30 - 2, 1<<30 - 1, 1 << 30} {
		d, j := small(t)
		put(t, d, 2, 1, seq, 5)
		want := entries(seq, 5)
		for seq < 1<<30 && len(want) < 3 {
			hold(t, j, seq+1, want...)
			seq++
			ok(t, j.Add(seq))
			want = append(want, journal.Entry{Seq: seq, Word: seq})
		}
		hold(t, j, seq+1, want...)
		if seq < 1<<30 {
			continue
		}
		was := all(d)
		is(t, api.ErrSeq, j.Add(1), j.Add(2))
		d.Power(false)
		is(t, api.ErrSeq, j.Add(1))
		d.Power(true)
		hold(t, of(t, d, 1, 3), 1<<30+1, want...)
		if !slices.Equal(all(d), was) {
			t.Error("something is turned")
		}
	}
}

// P47.1, the chapter's words: a number that isn't from 1 to MaxSeq is no entry's, though the pairs are right.
func TestNoNumber(t *testing.T) {
	for _, seq := range []uint32{0, 1<<30 + 1, 1 << 31, blank - 1, blank} {
		d, j := small(t)
		put(t, d, 1, 0, seq, 5)
		hold(t, j, 1)
		ok(t, j.Add(6)) // but its place isn't blank
		isAt(t, d, 1, 1, 1, 6)
		hold(t, j, 2, entries(1, 6)...)
	}
}

// The chapter's words: a place has an entry just if both pairs are right.
func TestPairs(t *testing.T) {
	whole := []uint32{0x00ff1200, ^uint32(0x00ff1200), 6, ^uint32(6)}
	for word := range 4 {
		for bit := range 32 {
			d, j := small(t)
			l := slices.Clone(whole)
			l[word] ^= 1 << bit
			put(t, d, 2, 0, 5, 1)
			write(t, d, 2, 4, l...)
			hold(t, j, 6, entries(5, 1)...)
			ok(t, j.Add(9))
			isAt(t, d, 2, 2, 6, 9)
		}
	}
	d, j := small(t)
	put(t, d, 2, 0, 5, 1)
	write(t, d, 2, 4, whole...)
	hold(t, j, 7, journal.Entry{Seq: 5, Word: 1}, journal.Entry{Seq: 6, Word: 0x00ff1200})
}

// The chapter's words: no entry is read where no place is: behind the last place, across sectors, in other sectors.
func TestPlaces(t *testing.T) {
	d, j := small(t)
	put(t, d, 0, 0, 90, 1)
	put(t, d, 4, 0, 91, 1)
	write(t, d, 1, 2, 7, ^uint32(7), 92, ^uint32(92)) // from a word on where none begins
	write(t, d, 2, 12, 7, ^uint32(7))
	write(t, d, 3, 0, 93, ^uint32(93))
	hold(t, j, 1)
	ok(t, j.Add(3))
	isAt(t, d, 1, 2, 1, 3)
}

// The chapter's words: the first place behind the last entry that is wholly blank; what is between stays as it is.
func TestNotBlank(t *testing.T) {
	for word := range 4 {
		for _, w := range []uint32{0, 1, blank - 1, 0x7fffffff} {
			d := device(t, 2, 24, 9)
			j := of(t, d, 0, 2)
			fill(t, j, 1)
			write(t, d, 0, 4+word, w)
			write(t, d, 0, 8+word, w)
			write(t, d, 0, 16+word, w)
			ok(t, j.Add(2))
			isAt(t, d, 0, 3, 2, 2)
			ok(t, j.Add(3))
			isAt(t, d, 0, 5, 3, 3)
			ok(t, j.Add(4))
			isAt(t, d, 1, 0, 4, 4)
			isWorn(t, d, 0, 1)
			hold(t, j, 5, entries(1, 1, 2, 3, 4)...)
		}
	}
}

// The chapter's words: without an entry it is the first place of the first sector that is blank; where there is none, the second sector is erased.
func TestNone(t *testing.T) {
	for spoilt := range 8 {
		d, j := small(t)
		for place := range 3 {
			if spoilt>>place&1 == 1 {
				write(t, d, 1, 4*place+3, 0)
			}
		}
		write(t, d, 2, 0, 5) // other sectors count for nothing
		hold(t, j, 1)
		ok(t, j.Add(9))
		if spoilt == 7 {
			isAt(t, d, 2, 0, 1, 9)
			isWorn(t, d, 0, 0, 1, 0, 0)
		} else {
			isAt(t, d, 1, slices.Index([]bool{spoilt&1 == 0, spoilt&2 == 0, spoilt&4 == 0}, true), 1, 9)
			isWorn(t, d, 0, 0, 0, 0, 0)
		}
		hold(t, j, 2, entries(1, 9)...)
	}
}

// The chapter's words: the entry of the greatest number counts, wherever it is, also ahead of others of its sector.
func TestGreatest(t *testing.T) {
	for sector := range 3 {
		for place := range 3 {
			d, j := small(t)
			seq := uint32(1)
			var want []journal.Entry
			for s := range 3 {
				for p := range 3 {
					if (s+p)%2 == 0 && (s != sector || p != place) {
						put(t, d, 1+s, p, seq, seq+40)
						want = append(want, journal.Entry{Seq: seq, Word: seq + 40})
						seq += 3
					}
				}
			}
			put(t, d, 1+sector, place, 100, 7)
			want = append(want, journal.Entry{Seq: 100, Word: 7})
			hold(t, j, 101, want...)
			free := -1
			for p := place + 1; p < 3 && free < 0; p++ {
				if at(d, 1+sector, p)[0] == blank {
					free = p
				}
			}
			ok(t, j.Add(8))
			if free >= 0 {
				isAt(t, d, 1+sector, free, 101, 8)
				isWorn(t, d, 0, 0, 0, 0, 0)
			} else {
				isAt(t, d, 1+(sector+1)%3, 0, 101, 8)
				isBlank(t, d, 1+(sector+1)%3, 1)
				isBlank(t, d, 1+(sector+1)%3, 2)
			}
		}
	}
}

// P47.3: by their numbers, wherever they are; each once.
func TestAll(t *testing.T) {
	r := rand.New(rand.NewPCG(47, 3))
	for range 200 {
		d, j := small(t)
		var want []journal.Entry
		for _, n := range r.Perm(9)[:r.IntN(10)] {
			e := journal.Entry{Seq: 1 + uint32(r.IntN(1<<30)), Word: r.Uint32()}
			put(t, d, 1+n/3, n%3, e.Seq, e.Word)
			want = append(want, e)
		}
		slices.SortFunc(want, func(a, b journal.Entry) int { return int(a.Seq) - int(b.Seq) })
		next := uint32(1)
		if len(want) > 0 {
			next = want[len(want)-1].Seq + 1
		}
		hold(t, j, next, want...)
		d.Power(false) // they are there also without power
		hold(t, j, next, want...)
	}
}

// P47.3, rule 8: left anywhere; gone through again, it tells what is there then.
func TestAllAgain(t *testing.T) {
	d, j := small(t)
	l := j.All()
	first := func(most int) []journal.Entry {
		var got []journal.Entry
		for e := range l {
			got = append(got, e)
			if len(got) == most {
				break
			}
		}
		return got
	}
	if l == nil || len(first(9)) != 0 {
		t.Error("of nothing")
	}
	for n := uint32(1); n <= 30; n++ {
		ok(t, j.Add(n))
		whole := slices.Collect(j.All())
		for most := 1; most <= len(whole)+1; most++ {
			if got := first(most); !slices.Equal(got, whole[:min(most, len(whole))]) {
				t.Fatalf("left behind %d: %v of %v", most, got, whole)
			}
		}
	}
	ok(t, d.Erase(1), d.Erase(2), d.Erase(3))
	if len(first(9)) != 0 {
		t.Error("of nothing any more")
	}
}

// P47.3, P1: whatever is added meanwhile, All goes through those that were there as it began.
func TestAllMeanwhile(t *testing.T) {
	_, j := small(t)
	fill(t, j, row(1, 9)...)
	var got []journal.Entry
	for e := range j.All() {
		got = append(got, e)
		ok(t, j.Add(50), j.Add(51))
	}
	if !slices.Equal(got, entries(1, row(1, 9)...)) {
		t.Error(got)
	}
}

// P47.2, rule 4: without power nothing is begun, and no place is used.
func TestNoPower(t *testing.T) {
	for many := range 12 {
		d, j := small(t)
		fill(t, j, row(1, many)...)
		was, told := all(d), slices.Collect(j.All())
		d.Power(false)
		is(t, api.ErrCut, j.Add(1), j.Add(2), j.Add(3), j.Add(4))
		hold(t, j, uint32(many+1), told...)
		d.Power(true)
		if !slices.Equal(all(d), was) {
			t.Error("something is turned")
		}
		hold(t, j, uint32(many+1), told...)
		ok(t, j.Add(77))
		isAt(t, d, 1+many/3%3, many%3, uint32(many+1), 77)
	}
}

// P47.2: a sector that can't be erased any more: ErrWorn, and nothing is turned; all that is there stays.
func TestWorn(t *testing.T) {
	for limit := range 4 {
		d := device(t, 3, 8, limit)
		j := of(t, d, 0, 3)
		many := 2 + limit*6 // the second sector is erased first
		fill(t, j, row(1, many)...)
		was, told := all(d), slices.Collect(j.All())
		if len(told) != min(many, 6) {
			t.Errorf("limit %d: %v", limit, told)
		}
		for range 2 {
			is(t, api.ErrWorn, j.Add(8), j.Add(9))
			j = of(t, d, 0, 3)
			hold(t, j, uint32(many+1), told...)
		}
		if !slices.Equal(all(d), was) {
			t.Error("something is turned")
		}
		d.Power(false)
		is(t, api.ErrCut, j.Add(1))
	}
}

// P47.2: a place in which an entry was cut off isn't used again, the number is: by the journal itself, and by one that is opened anew.
func TestCutPlace(t *testing.T) {
	for _, again := range []bool{false, true} {
		for after := range 4 {
			for _, seed := range []uint32{blank, 2, 0x55555556, 0xffff0002} { // each leaves a bit of the number's counterpart
				d := device(t, 2, 24, 9)
				j := of(t, d, 0, 2)
				ok(t, j.Add(7))
				cut(t, d, j, 9, after, seed)
				spoilt := at(d, 0, 1)
				if again {
					j = of(t, d, 0, 2)
				}
				hold(t, j, 2, entries(1, 7)...)
				ok(t, j.Add(8))
				hold(t, j, 3, entries(1, 7, 8)...)
				if again && after == 0 && seed == blank { // nothing tells that there was something
					isAt(t, d, 0, 1, 2, 8)
					continue
				}
				isAt(t, d, 0, 2, 2, 8)
				if !slices.Equal(at(d, 0, 1), spoilt) {
					t.Errorf("behind %d, seed %x: the place is turned", after, seed)
				}
			}
		}
	}
}

// P47.2: a place that was cut off as it was, blank, isn't used again either, be there some of them; in a sector that is erased anew all are.
func TestCutBlank(t *testing.T) {
	for first := range 2 { // with an entry ahead of them, and without one
		for many := 1; many <= 6; many++ {
			d := device(t, 3, 16, 99)
			j := of(t, d, 0, 3)
			fill(t, j, row(70, first)...)
			for n := range many {
				if first+n >= 4 {
					break
				}
				cut(t, d, j, blank-uint32(n), 0, blank)
				for p := first; p < 4; p++ {
					isBlank(t, d, 0, p)
				}
			}
			ok(t, j.Add(5))
			seq := uint32(first + 1)
			if first+many < 4 {
				isAt(t, d, 0, first+many, seq, 5)
				isWorn(t, d, 0, 0, 0)
			} else {
				isAt(t, d, 1, 0, seq, 5)
				isWorn(t, d, 0, 1, 0)
				for p := first; p < 4; p++ {
					isBlank(t, d, 0, p)
				}
			}
			// Round: the sectors are erased, and then each place is used.
			for n := range 40 {
				ok(t, j.Add(uint32(n)))
			}
			if l := slices.Collect(j.All()); len(l) < 9 {
				t.Errorf("%v", l)
			}
		}
	}
}

// P47.2: without any entry, places of both sectors are cut off, blank: none of the first one is used again, though it looks so.
func TestCutAll(t *testing.T) {
	d := device(t, 2, 8, 99)
	j := of(t, d, 0, 2)
	cut(t, d, j, 1, 0, blank)
	cut(t, d, j, 2, 0, blank)
	for n := range 3 {
		cut(t, d, j, 3, 1, blank) // the second sector is erased first, and has no entry
		isWorn(t, d, 0, n+1)
		isBlank(t, d, 0, 0)
		isBlank(t, d, 0, 1)
		isBlank(t, d, 1, 0)
	}
	ok(t, j.Add(4))
	isAt(t, d, 1, 0, 1, 4)
	isWorn(t, d, 0, 4)
	ok(t, j.Add(5), j.Add(6))
	isAt(t, d, 0, 0, 3, 6)
	hold(t, j, 4, entries(1, 4, 5, 6)...)
}

// The chapter's words: where the first place of a sector is cut off, the last entry is still in the one ahead of it: the next sector is erased once more.
func TestCutFirst(t *testing.T) {
	for _, again := range []bool{false, true} {
		for after := range 5 {
			for _, seed := range []uint32{blank, 4, 0x55555554, 0xffff0004} {
				d, j := small(t)
				fill(t, j, 1, 2, 3)
				cut(t, d, j, 9, after, seed)
				isWorn(t, d, 0, 0, 1, 0, 0)
				if again {
					j = of(t, d, 1, 3)
				}
				hold(t, j, 4, entries(1, 1, 2, 3)...)
				ok(t, j.Add(4))
				isAt(t, d, 2, 0, 4, 4)
				isWorn(t, d, 0, 0, 2, 0, 0)
				hold(t, j, 5, entries(1, 1, 2, 3, 4)...)
			}
		}
	}
}

// P47.4: what is cut off in its last operation, but stands there wholly, is an entry, and its number isn't used again.
func TestCutWhole(t *testing.T) {
	for _, again := range []bool{false, true} {
		d, j := small(t)
		fill(t, j, 1)
		cut(t, d, j, 9, 3, 1) // of the number 2 the mask has no bit
		isAt(t, d, 1, 1, 2, 9)
		if again {
			j = of(t, d, 1, 3)
		}
		hold(t, j, 3, entries(1, 1, 9)...)
		ok(t, j.Add(4))
		isAt(t, d, 1, 2, 3, 4)
		hold(t, j, 4, entries(1, 1, 9, 4)...)
	}
}

// P47.4: in whichever operation the power goes, an entry is there wholly or not, and of those of the other sectors none is lost.
func TestCutOff(t *testing.T) {
	for _, again := range []bool{false, true} {
		for _, seed := range seeds {
			for many := range 14 {
				for after := range 6 {
					d, j := small(t)
					fill(t, j, row(1, many)...)
					was := slices.Collect(j.All())
					d.Arm(api.Cut{After: after, Seed: seed})
					ops := 4
					if many%3 == 0 && many > 0 {
						ops = 5
					}
					e := j.Add(0x7f00ff00)
					if (e == api.OK) != (after >= ops) || e != api.OK && e != api.ErrCut {
						t.Fatalf("%d, behind %d: %v", many, after, e)
					}
					d.Power(true)
					if again {
						j = of(t, d, 1, 3)
					}
					got := slices.Collect(j.All())
					wholly := len(got) > 0 && got[len(got)-1] == journal.Entry{Seq: uint32(many + 1), Word: 0x7f00ff00}
					if e == api.OK && !wholly || wholly && after < ops-1 {
						t.Fatalf("%d, behind %d, seed %x: %v, %v", many, after, seed, e, got)
					}
					if wholly {
						got = got[:len(got)-1]
					}
					lost := len(was) - len(got)
					if lost < 0 || lost > 3 || lost > 0 && (ops == 4 || many < 9) || !within(got, was) || !within(was[min(3, len(was)):], got) && lost > 0 {
						t.Fatalf("%d, behind %d, seed %x: %v of %v", many, after, seed, got, was)
					}
				}
			}
		}
	}
}

// within: are all entries of a list in another one, too?
func within(part, whole []journal.Entry) bool {
	return !slices.ContainsFunc(part, func(e journal.Entry) bool { return !slices.Contains(whole, e) })
}

// P47.4: cut off again and again, opened anew or not: none that was never added is there, and of the last ones as many as there are to be.
func TestCutsOff(t *testing.T) {
	for seed := range uint64(12) {
		r := rand.New(rand.NewPCG(47, seed))
		many, words := 2+r.IntN(4), 4+r.IntN(20)
		d := device(t, many+1, words, 1<<20)
		j := of(t, d, 1, many)
		var added, begun []journal.Entry
		cuts := map[int]int{} // how many were cut off behind so many that weren't
		for round := range 2000 {
			if r.IntN(3) == 0 {
				d.Arm(api.Cut{After: r.IntN(8), Seed: r.Uint32() & r.Uint32()})
			}
			e := journal.Entry{Seq: j.Next(), Word: r.Uint32() << r.IntN(32)}
			begun = append(begun, e)
			switch errno := j.Add(e.Word); errno {
			case api.OK:
				added = append(added, e)
			case api.ErrCut:
				cuts[len(added)]++
			default:
				t.Fatal(errno)
			}
			d.Power(true)
			if r.IntN(2) == 0 {
				j = of(t, d, 1, many)
			}
			there := slices.Collect(j.All())
			if !within(there, begun[max(0, len(begun)-3*many*words):]) || !slices.IsSortedFunc(there, func(a, b journal.Entry) int { return int(a.Seq) - int(b.Seq) }) {
				t.Fatalf("round %d: %v", round, there)
			}
			// Going back from the last one: each that was cut off takes the place of one.
			for room, n := j.Keeps()-cuts[len(added)], len(added)-1; n >= 0 && room > 0; n-- {
				if !slices.Contains(there, added[n]) {
					t.Fatalf("round %d: %v is lost: %v", round, added[n], there)
				}
				room -= 1 + cuts[n]
			}
		}
	}
}

// model is a journal of a device of its own, told by the words of its sectors alone, and by which places it was cut off in.
type model struct {
	d           *flash.Device
	base, many  int
	gone        map[[3]int]bool // the sector, how often it was erased, the place
	sector, pos int             // of the last entry
	seq         uint32
}

// look finds the last entry, and answers all.
func (m *model) look() []journal.Entry {
	m.sector, m.pos, m.seq = 0, -1, 0
	var l []journal.Entry
	for s := range m.many {
		words := m.d.Sector(m.base + s)
		for p := range len(words) / 4 {
			w := words[4*p : 4*p+4]
			if w[0]^w[1] != blank || w[2]^w[3] != blank || w[2] == 0 || w[2] > 1<<30 {
				continue
			}
			l = append(l, journal.Entry{Seq: w[2], Word: w[0]})
			if w[2] > m.seq {
				m.sector, m.pos, m.seq = s, p, w[2]
			}
		}
	}
	slices.SortStableFunc(l, func(a, b journal.Entry) int { return int(a.Seq) - int(b.Seq) })
	return l
}

func (m *model) add(w uint32) api.Errno {
	m.look()
	if m.seq == 1<<30 {
		return api.ErrSeq
	}
	if !m.d.On() {
		return api.ErrCut
	}
	s, p := m.sector, m.pos+1
	words := m.d.Sector(m.base + s)
	for ; p < len(words)/4; p++ {
		if !m.gone[[3]int{s, m.d.Worn(m.base + s), p}] && !slices.ContainsFunc(words[4*p:4*p+4], func(w uint32) bool { return w != blank }) {
			break
		}
	}
	if p == len(words)/4 {
		s, p = (s+1)%m.many, 0
		if e := m.d.Erase(m.base + s); e != api.OK {
			return e
		}
	}
	for i, word := range []uint32{w, ^w, m.seq + 1, ^(m.seq + 1)} {
		if e := m.d.Program(m.base+s, 4*p+i, word); e != api.OK {
			m.gone[[3]int{s, m.d.Worn(m.base + s), p}] = true
			return e
		}
	}
	return api.OK
}

// P47.1 to P47.3: whatever is done, cuts, words that are spoilt, sectors that are erased and journals that are opened anew among it.
func TestMixture(t *testing.T) {
	for seed := range uint64(80) {
		r := rand.New(rand.NewPCG(47, seed))
		many, words, limit := 2+r.IntN(3), 4+r.IntN(16), []int{2, 20, 1 << 20}[r.IntN(3)]
		d := device(t, many+2, words, limit)
		m := &model{d: device(t, many+2, words, limit), base: 1, many: many, gone: map[[3]int]bool{}}
		j := of(t, d, 1, many)
		for range 600 {
			var e, want api.Errno
			switch n := r.IntN(60); {
			case n < 40:
				w := []uint32{r.Uint32(), 0, blank, uint32(n)}[r.IntN(4)]
				e, want = j.Add(w), m.add(w)
			case n < 46:
				c := api.Cut{After: r.IntN(8) - 1, Seed: []uint32{blank, r.Uint32(), r.Uint32() & r.Uint32()}[r.IntN(3)]}
				d.Arm(c)
				m.d.Arm(c)
			case n < 55:
				on := n > 46
				d.Power(on)
				m.d.Power(on)
			case n < 57:
				again, errno := journal.Open(d, 1, many)
				if !d.On() {
					e, want = errno, api.ErrCut
					break
				}
				ok(t, errno)
				j, m.gone = again, map[[3]int]bool{}
			case n < 58:
				sector := 1 + r.IntN(many)
				e, want = d.Erase(sector), m.d.Erase(sector)
			default:
				sector, word, w := r.IntN(many+2), r.IntN(words), r.Uint32()|r.Uint32()|r.Uint32()
				e, want = d.Program(sector, word, w), m.d.Program(sector, word, w)
			}
			if e != want {
				t.Fatalf("seed %d: %v, not %v", seed, e, want)
			}
			if !slices.Equal(all(d), all(m.d)) || d.On() != m.d.On() {
				t.Fatalf("seed %d: %x, not %x", seed, all(d), all(m.d))
			}
			l := m.look()
			hold(t, j, m.seq+1, l...)
		}
	}
}

// P2: journals of other sectors of a device don't meet.
func TestApart(t *testing.T) {
	d := device(t, 7, 9, 50)
	a, b := of(t, d, 0, 3), of(t, d, 3, 4)
	for n := range uint32(40) {
		fill(t, a, n)
		if n%3 == 0 {
			fill(t, b, n+1000)
		}
	}
	hold(t, a, 41, entries(35, row(34, 6)...)...)
	hold(t, b, 15, entries(7, 1018, 1021, 1024, 1027, 1030, 1033, 1036, 1039)...)
	ok(t, d.Erase(0), d.Erase(1), d.Erase(2))
	hold(t, a, 1)
	fill(t, a, 5)
	isAt(t, d, 0, 0, 1, 5)
	hold(t, b, 15, entries(7, 1018, 1021, 1024, 1027, 1030, 1033, 1036, 1039)...)
}

// P47.2: what was cut off by one journal, another one of the same sectors may use, and the first one goes on behind that.
func TestTwo(t *testing.T) {
	d, a := small(t)
	b := of(t, d, 1, 3)
	fill(t, a, 1)
	cut(t, d, a, 5, 0, blank)
	fill(t, b, 2)
	isAt(t, d, 1, 1, 2, 2)
	fill(t, a, 3)
	isAt(t, d, 1, 2, 3, 3)
	hold(t, a, 4, entries(1, 1, 2, 3)...)
	hold(t, b, 4, entries(1, 1, 2, 3)...)
	for n := range uint32(9) {
		fill(t, b, n)
	}
	fill(t, a, 7)
	isAt(t, d, 2, 0, 13, 7)
}
