package store_test

import (
	"math"
	"math/rand/v2"
	"slices"
	"testing"

	"remontoir/api"
	"remontoir/bank"
	"remontoir/flash"
	"remontoir/header"
	"remontoir/store"
)

const blank = 0xffffffff

// seeds: masks that leave all, or nearly none, of what an operation turns, and others.
var seeds = []uint32{blank, 1, 2, 0x80000000, 0x0000ffff, 0xffff0000, 0x55555555, 77, 0xdeadbeef, 0}

// far are numbers of no bank.
var far = []int{-1, -2, 2, 3, 4, 63, 64, 1 << 31, 1 << 32, 1<<32 + 1, -1 << 32, math.MinInt32, math.MinInt, math.MinInt + 1, math.MaxInt, math.MaxInt - 1}

// device: one that may be.
func device(t *testing.T, sectors, words, limit int) *flash.Device {
	t.Helper()
	d, e := flash.New(sectors, words, limit)
	if d == nil || e != api.OK {
		t.Fatalf("flash.New(%d, %d, %d): %v", sectors, words, limit, e)
	}
	return d
}

// of: the store of a device that may have one.
func of(t *testing.T, d *flash.Device) *store.Store {
	t.Helper()
	s, e := store.New(d)
	if s == nil || e != api.OK {
		t.Fatalf("New: %v", e)
	}
	return s
}

// small: a device of nine sectors of 14 words, of which the last one is left out, and its store: there is room for 28 words in each bank.
func small(t *testing.T) (*flash.Device, *store.Store) {
	t.Helper()
	d := device(t, 9, 14, 100)
	return d, of(t, d)
}

// half: layer 8's bank of a half of a device.
func half(t *testing.T, d *flash.Device, i int) *bank.Bank {
	t.Helper()
	many := d.Sectors() / 2
	b, e := bank.New(d, i*many, many)
	if e != api.OK {
		t.Fatal(e)
	}
	return b
}

// row: so many words from one on.
func row(from uint32, many int) []uint32 {
	var l []uint32
	for i := range many {
		l = append(l, from+uint32(i))
	}
	return l
}

// ok holds errors against OK.
func ok(t *testing.T, l ...api.Errno) {
	t.Helper()
	for i, e := range l {
		if e != api.OK {
			t.Fatalf("call %d: %v", i, e)
		}
	}
}

// is holds errors against another one.
func is(t *testing.T, want api.Errno, l ...api.Errno) {
	t.Helper()
	for i, e := range l {
		if e != want {
			t.Fatalf("call %d: %v, not %v", i, e, want)
		}
	}
}

// commit has a half of a device get an image of a number, put there by layer 8.
func commit(t *testing.T, d *flash.Device, i int, seq uint32, l ...uint32) *bank.Bank {
	t.Helper()
	b := half(t, d, i)
	ok(t, b.Begin(), b.Put(l...), b.Commit(seq))
	return b
}

// confirm has a half of a device get an image that is confirmed.
func confirm(t *testing.T, d *flash.Device, i int, seq uint32, l ...uint32) *bank.Bank {
	t.Helper()
	b := commit(t, d, i, seq, l...)
	ok(t, b.Confirm())
	return b
}

// all: all words of a device, and how worn its sectors are.
func all(d *flash.Device) []uint32 {
	l := []uint32{uint32(d.Ops())}
	for i := range d.Sectors() {
		l = append(l, uint32(d.Worn(i)))
		l = append(l, d.Sector(i)...)
	}
	return l
}

// same: are two candidates alike?
func same(a, b store.Candidate) bool {
	return a.Bank == b.Bank && a.Seq == b.Seq && a.Trial == b.Trial && slices.Equal(a.Words, b.Words)
}

// isCandidates holds the candidates against those that are to be; gone through twice, as they are told by what is there (P2, rule 8).
func isCandidates(t *testing.T, s *store.Store, want ...store.Candidate) {
	t.Helper()
	l := s.Candidates()
	for range 2 {
		if got := slices.Collect(l); !slices.EqualFunc(got, want, same) {
			t.Fatalf("Candidates: %v, not %v", got, want)
		}
	}
}

// isRuns holds which bank runs, and whether it is confirmed, against what is to be; below 0: none runs.
func isRuns(t *testing.T, s *store.Store, i int, confirmed bool) {
	t.Helper()
	if n, ok := s.Runs(); n != max(i, 0) || ok != (i >= 0) || s.Confirmed() != confirmed {
		t.Fatalf("Runs: %d %v, Confirmed %v, not %d, %v", n, ok, s.Confirmed(), i, confirmed)
	}
}

// isStaged holds Staged against how many words were put; below 0: nothing is staged.
func isStaged(t *testing.T, s *store.Store, many int) {
	t.Helper()
	if n, ok := s.Staged(); n != max(many, 0) || ok != (many >= 0) {
		t.Fatalf("Staged: %d %v, not %d", n, ok, many)
	}
}

// P9.1: a store of which nothing runs, wherever the halves are banks.
func TestNew(t *testing.T) {
	if store.MaxSeq != 1<<31 {
		t.Error(uint32(store.MaxSeq))
	}
	for sectors := 1; sectors <= 64; sectors++ {
		for _, words := range []int{1, 2, 11, 12, 13, 14, 1023, 1024} {
			d := device(t, sectors, words, 1)
			if sectors < 6 || words < 13 {
				if s, e := store.New(d); s != nil || e != api.ErrSize {
					t.Errorf("%d sectors of %d words: %v, %v", sectors, words, s, e)
				}
				continue
			}
			s := of(t, d)
			isRuns(t, s, -1, false)
			isStaged(t, s, -1)
			isCandidates(t, s)
			if d.Ops() != 0 {
				t.Error("New turns something")
			}
		}
	}
	for _, d := range []*flash.Device{nil, new(flash.Device)} {
		if s, e := store.New(d); s != nil || e != api.ErrSize {
			t.Errorf("%v, %v", s, e)
		}
	}
	d := device(t, 6, 13, 1)
	d.Power(false) // without power, too
	isRuns(t, of(t, d), -1, false)
}

// P9.1, the chapter's words: where the banks are; of an odd number of sectors the last one stays as it is.
func TestWhere(t *testing.T) {
	for _, sectors := range []int{6, 7, 8, 9, 16, 63, 64} {
		d := device(t, sectors, 13, 9)
		s := of(t, d)
		room := (sectors/2 - 2) * 13
		ok(t, s.Install(row(100, room)...), s.Start(0))
		ok(t, s.Begin(), s.Put(row(500, room)...))
		is(t, api.ErrFull, s.Put(1))
		ok(t, s.Commit())
		for i := range 2 {
			many := sectors / 2
			first, h := i*many, d.Sector(i*many+1)
			if d.Sector(first)[0] != blank || h[0] != uint32(i+1) || h[2] != uint32(room) || h[7] != 0x9c909292 {
				t.Errorf("bank %d of %d sectors: %x, %x", i, sectors, d.Sector(first), h)
			}
			var l []uint32
			for sector := first + 2; sector < first+many; sector++ {
				l = append(l, d.Sector(sector)...)
			}
			if !slices.Equal(l, row([]uint32{100, 500}[i], room)) {
				t.Errorf("bank %d of %d sectors: %x", i, sectors, l)
			}
		}
		if sectors%2 == 1 && (d.Worn(sectors-1) != 0 || !slices.Equal(d.Sector(sectors-1), slices.Repeat([]uint32{blank}, 13))) {
			t.Errorf("%d sectors: the last one isn't left out", sectors)
		}
		isCandidates(t, s, store.Candidate{Bank: 1, Seq: 2, Trial: true, Words: row(500, room)}, store.Candidate{Bank: 0, Seq: 1, Words: row(100, room)})
	}
}

// P9.1: an image as long as may be, of banks that have more room than that.
func TestGreatest(t *testing.T) {
	d := device(t, 64, 1024, 5)
	s := of(t, d)
	is(t, api.ErrFull, s.Install(row(1, 4097)...))
	ok(t, s.Install(row(1, 4096)...), s.Start(0), s.Begin())
	is(t, api.ErrFull, s.Put(row(1, 4097)...))
	ok(t, s.Put(row(9, 4096)...), s.Commit())
	isCandidates(t, s, store.Candidate{Bank: 1, Seq: 2, Trial: true, Words: row(9, 4096)}, store.Candidate{Bank: 0, Seq: 1, Words: row(1, 4096)})
}

// P9.1: the greater number goes first, of the same one the bank 0; whether they are confirmed counts for nothing.
func TestOrder(t *testing.T) {
	seqs := []uint32{0, 1, 2, 3, 0x7fffffff, 1 << 31, 1<<31 + 1, blank - 1, blank}
	for _, a := range seqs {
		for _, b := range seqs {
			for sure := range 4 {
				d, s := small(t)
				for i, seq := range []uint32{a, b} {
					if sure>>i&1 == 1 {
						confirm(t, d, i, seq, uint32(i))
					} else {
						commit(t, d, i, seq, uint32(i))
					}
				}
				first := store.Candidate{Bank: 0, Seq: a, Trial: sure&1 == 0, Words: []uint32{0}}
				second := store.Candidate{Bank: 1, Seq: b, Trial: sure&2 == 0, Words: []uint32{1}}
				if b > a {
					first, second = second, first
				}
				isCandidates(t, s, first, second)
			}
		}
	}
}

// P9.1, the chapter's words: an image is a candidate while not all words of trials are used up, or if it is confirmed.
func TestTrials(t *testing.T) {
	for i := range 2 {
		d, s := small(t)
		b := commit(t, d, i, 7, 5, 6)
		c := store.Candidate{Bank: i, Seq: 7, Trial: true, Words: []uint32{5, 6}}
		for range 3 {
			isCandidates(t, s, c)
			ok(t, b.Try())
		}
		isCandidates(t, s)
		is(t, api.ErrOrder, s.Start(i))
		ok(t, b.Confirm())
		c.Trial = false
		isCandidates(t, s, c)
		ok(t, s.Start(i))
	}
	// A word that is spoilt is used up, too, wherever it is.
	for spoilt := range 8 {
		d, s := small(t)
		commit(t, d, 1, 7, 5)
		for word := range 3 {
			if spoilt>>word&1 == 1 {
				ok(t, d.Program(5, 10+word, ^uint32(1<<(9*word))))
			}
		}
		if spoilt == 7 {
			isCandidates(t, s)
		} else {
			isCandidates(t, s, store.Candidate{Bank: 1, Seq: 7, Trial: true, Words: []uint32{5}})
		}
	}
}

// P9.1: a bank that has no image has no candidate: void, not committed, its words spoilt; the other one stays; without power there is none.
func TestNoImage(t *testing.T) {
	for i := range 2 {
		first := 4 * i
		for _, spoil := range []func(*flash.Device, *bank.Bank) api.Errno{
			func(d *flash.Device, b *bank.Bank) api.Errno { return d.Program(first, 0, 7) },
			func(d *flash.Device, b *bank.Bank) api.Errno { return d.Program(first+1, 0, 0) },
			func(d *flash.Device, b *bank.Bank) api.Errno { return d.Program(first+1, 7, 0) },
			func(d *flash.Device, b *bank.Bank) api.Errno { return d.Program(first+2, 1, 2) },
			func(d *flash.Device, b *bank.Bank) api.Errno { return d.Erase(first + 1) },
			func(d *flash.Device, b *bank.Bank) api.Errno { return b.Begin() },
		} {
			d, s := small(t)
			confirm(t, d, 1-i, 3, 9)
			b := confirm(t, d, i, 5, 2, 3)
			other := store.Candidate{Bank: 1 - i, Seq: 3, Words: []uint32{9}}
			isCandidates(t, s, store.Candidate{Bank: i, Seq: 5, Words: []uint32{2, 3}}, other)
			d.Power(false)
			isCandidates(t, s)
			d.Power(true)
			ok(t, spoil(d, b))
			isCandidates(t, s, other)
			is(t, api.ErrOrder, s.Start(i))
			isRuns(t, s, -1, false)
			ok(t, s.Start(1-i))
		}
	}
}

// P9.1, rule 8: left anywhere; gone through again, it tells what is there then.
func TestCandidatesAgain(t *testing.T) {
	d, s := small(t)
	l := s.Candidates()
	many := func(most int) int {
		n := 0
		for range l {
			if n++; n == most {
				break
			}
		}
		return n
	}
	if n := many(9); n != 0 {
		t.Error(n)
	}
	confirm(t, d, 0, 1, 5)
	if n := many(9); n != 1 {
		t.Error(n)
	}
	commit(t, d, 1, 2, 6)
	if a, b, c := many(1), many(2), many(9); a != 1 || b != 2 || c != 2 {
		t.Error(a, b, c)
	}
	d.Power(false)
	if n := many(9); n != 0 {
		t.Error(n)
	}
}

// P9.1, P1: whatever is done meanwhile, Candidates goes through those that were there as it began.
func TestCandidatesMeanwhile(t *testing.T) {
	d, s := small(t)
	confirm(t, d, 0, 1, 5)
	commit(t, d, 1, 2, 6)
	var got []store.Candidate
	for c := range s.Candidates() {
		got = append(got, c)
		ok(t, s.Start(0))
		ok(t, s.Begin())
		d.Power(false)
		for range s.Candidates() {
			t.Error("without power")
		}
		d.Power(true)
	}
	want := []store.Candidate{{Bank: 1, Seq: 2, Trial: true, Words: []uint32{6}}, {Bank: 0, Seq: 1, Words: []uint32{5}}}
	if !slices.EqualFunc(got, want, same) {
		t.Errorf("%v, not %v", got, want)
	}
}

// P9.2: no bank goes ahead of no power, that ahead of no candidate; what ran goes on, and nothing is turned.
func TestStartErrors(t *testing.T) {
	for runs := -1; runs < 2; runs++ {
		d, s := small(t)
		confirm(t, d, 0, 1, 5)
		confirm(t, d, 1, 2, 6)
		if runs >= 0 {
			ok(t, s.Start(runs))
			ok(t, half(t, d, 1-runs).Begin())
		}
		for _, on := range []bool{true, false, true} {
			d.Power(on)
			was := all(d)
			for _, i := range far {
				is(t, api.ErrOrder, s.Start(i))
			}
			if !on {
				is(t, api.ErrCut, s.Start(0), s.Start(1))
			} else if runs >= 0 {
				is(t, api.ErrOrder, s.Start(1-runs))
			}
			isRuns(t, s, runs, runs >= 0)
			if !slices.Equal(all(d), was) {
				t.Error("something is turned")
			}
		}
	}
}

// P9.2: an image on trial is started just as often as there are trials; one that is confirmed as often as one likes.
func TestStart(t *testing.T) {
	for i := range 2 {
		d, s := small(t)
		confirm(t, d, 1-i, 9, 5)
		b := commit(t, d, i, 4, 6)
		for n := range 3 {
			ok(t, s.Start(i))
			isRuns(t, s, i, false)
			if trials := b.State().Trials; trials != n+1 {
				t.Errorf("%d trials behind %d", trials, n+1)
			}
			was := all(d)
			ok(t, s.Start(1-i), s.Start(1-i))
			isRuns(t, s, 1-i, true)
			if !slices.Equal(all(d), was) {
				t.Error("a trial is used up of what is confirmed")
			}
		}
		was := all(d)
		is(t, api.ErrOrder, s.Start(i))
		isRuns(t, s, 1-i, true)
		if !slices.Equal(all(d), was) {
			t.Error("something is turned")
		}
	}
}

// P9.2: the third trial runs, though then there is no candidate any more; and it can be confirmed.
func TestLastTrial(t *testing.T) {
	d, s := small(t)
	commit(t, d, 1, 4, 6)
	ok(t, s.Start(1), s.Start(1), s.Start(1))
	isCandidates(t, s)
	isRuns(t, s, 1, false)
	is(t, api.ErrOrder, s.Start(1))
	isRuns(t, s, 1, false)
	ok(t, s.Confirm())
	isRuns(t, s, 1, true)
	isCandidates(t, s, store.Candidate{Bank: 1, Seq: 4, Words: []uint32{6}})
}

// P9.2: the power goes in a trial's word: layer 8's error, what ran stays, and the trial is used up, or isn't.
func TestStartCut(t *testing.T) {
	for _, seed := range seeds {
		for runs := -1; runs < 1; runs++ {
			d, s := small(t)
			confirm(t, d, 0, 1, 5)
			b := commit(t, d, 1, 2, 6)
			if runs == 0 {
				ok(t, s.Start(0))
			}
			d.Arm(api.Cut{Seed: seed})
			is(t, api.ErrCut, s.Start(1), s.Start(1))
			isRuns(t, s, runs, runs == 0)
			d.Power(true)
			isRuns(t, s, runs, runs == 0)
			if trials := b.State().Trials; trials > 1 || (trials == 0) != (seed == blank) {
				t.Errorf("seed %x: %d trials", seed, trials)
			}
			ok(t, s.Start(1))
			isRuns(t, s, 1, false)
		}
	}
}

// P9.2: stopped, nothing runs; it may be started again, and also stopped where nothing runs.
func TestStop(t *testing.T) {
	d, s := small(t)
	confirm(t, d, 0, 1, 5)
	confirm(t, d, 1, 2, 6)
	for _, i := range []int{0, 1, 1, 0} {
		s.Stop()
		isRuns(t, s, -1, false)
		is(t, api.ErrOrder, s.Begin(), s.Put(1), s.Commit(), s.Confirm())
		s.Stop()
		ok(t, s.Start(i))
		isRuns(t, s, i, true)
	}
	d.Power(false)
	s.Stop()
	isRuns(t, s, -1, false)
	d.Power(true)
	isRuns(t, s, -1, false)
}

// P9.2: Confirmed tells the state that there is, also without power.
func TestConfirmed(t *testing.T) {
	for i := range 2 {
		d, s := small(t)
		commit(t, d, i, 1, 5)
		confirm(t, d, 1-i, 1, 5)
		ok(t, s.Start(i))
		isRuns(t, s, i, false)
		ok(t, s.Confirm())
		isRuns(t, s, i, true)
		d.Power(false)
		isRuns(t, s, i, true)
		d.Power(true)
		ok(t, d.Program(4*i+2, 0, 0)) // the words don't count for the state
		isRuns(t, s, i, true)
		ok(t, s.Begin())
		ok(t, d.Program(4*i, 0, 0))
		isRuns(t, s, i, false)
		is(t, api.ErrOrder, s.Begin(), s.Put(1), s.Commit(), s.Confirm())
		isStaged(t, s, -1)
	}
}

// P9.3: without power ErrCut, whatever runs; then ErrOrder, where nothing that is confirmed runs; nothing is turned, and what is staged stays.
func TestStagingErrors(t *testing.T) {
	d, s := small(t)
	refused := func(want api.Errno) {
		t.Helper()
		was := all(d)
		for range 2 {
			is(t, want, s.Begin(), s.Put(), s.Put(1), s.Put(row(1, 5000)...), s.Commit())
			isStaged(t, s, -1)
		}
		if !slices.Equal(all(d), was) {
			t.Error("something is turned")
		}
	}
	both := func() {
		t.Helper()
		refused(api.ErrOrder)
		d.Power(false)
		refused(api.ErrCut)
		d.Power(true)
	}
	both()
	confirm(t, d, 0, 1, 5)
	commit(t, d, 1, 2, 6)
	both() // nothing runs yet
	ok(t, s.Start(1))
	both() // it is on trial
	ok(t, s.Start(0))
	d.Power(false)
	refused(api.ErrCut)
	d.Power(true)
	isStaged(t, s, -1)
	ok(t, s.Begin(), s.Put(7, 8))
	isStaged(t, s, 2)
	d.Power(false)
	refused(api.ErrCut)
	s.Stop()
	refused(api.ErrCut)
	d.Power(true)
	refused(api.ErrOrder)
	ok(t, s.Start(0))
	isStaged(t, s, 2)
	ok(t, s.Put(9), s.Commit())
	isStaged(t, s, -1)
	isCandidates(t, s, store.Candidate{Bank: 1, Seq: 2, Trial: true, Words: []uint32{7, 8, 9}}, store.Candidate{Bank: 0, Seq: 1, Words: []uint32{5}})
}

// P9.3: what is staged is staged in the bank that doesn't run, step by step, and the other one stays.
func TestStaging(t *testing.T) {
	for i := range 2 {
		d, s := small(t)
		confirm(t, d, i, 7, 5, 4)
		commit(t, d, 1-i, 3, 6)
		ok(t, s.Start(i))
		own := store.Candidate{Bank: i, Seq: 7, Words: []uint32{5, 4}}
		isCandidates(t, s, own, store.Candidate{Bank: 1 - i, Seq: 3, Trial: true, Words: []uint32{6}})
		isStaged(t, s, -1)
		is(t, api.ErrOrder, s.Put(1), s.Put(), s.Commit())
		ok(t, s.Begin())
		isCandidates(t, s, own)
		isStaged(t, s, 0)
		is(t, api.ErrOrder, s.Commit())
		ok(t, s.Put())
		is(t, api.ErrOrder, s.Commit())
		isStaged(t, s, 0)
		is(t, api.ErrFull, s.Put(row(1, 29)...))
		isStaged(t, s, 0)
		ok(t, s.Put(row(1, 20)...))
		isStaged(t, s, 20)
		is(t, api.ErrFull, s.Put(row(21, 9)...))
		isStaged(t, s, 20)
		ok(t, s.Put(row(21, 8)...))
		isStaged(t, s, 28)
		is(t, api.ErrFull, s.Put(1))
		isCandidates(t, s, own)
		ok(t, s.Commit())
		isStaged(t, s, -1)
		is(t, api.ErrOrder, s.Commit(), s.Put(1))
		isRuns(t, s, i, true)
		isCandidates(t, s, store.Candidate{Bank: 1 - i, Seq: 8, Trial: true, Words: row(1, 28)}, own)
		ok(t, s.Begin(), s.Put(1), s.Begin()) // begun anew, what was put is gone
		isStaged(t, s, 0)
		ok(t, s.Put(2), s.Commit())
		isCandidates(t, s, store.Candidate{Bank: 1 - i, Seq: 8, Trial: true, Words: []uint32{2}}, own)
	}
}

// P9.3: errors of layer 8 are told as they are: a worn bank, words that can't be programmed.
func TestStagingBank(t *testing.T) {
	d := device(t, 6, 13, 2)
	s := of(t, d)
	ok(t, s.Install(1), s.Start(0), s.Begin(), s.Begin())
	was := all(d)
	is(t, api.ErrWorn, s.Begin(), s.Begin())
	if !slices.Equal(all(d), was) {
		t.Error("something is turned")
	}
	isStaged(t, s, -1)
	is(t, api.ErrOrder, s.Put(1), s.Commit())
	isCandidates(t, s, store.Candidate{Seq: 1, Words: []uint32{1}})
	d, s = small(t)
	ok(t, s.Install(1), s.Start(0), s.Begin(), s.Put(1))
	ok(t, d.Program(6, 1, 1))
	is(t, api.ErrBits, s.Put(2))
	isStaged(t, s, -1)
	ok(t, s.Begin(), s.Put(1))
	ok(t, d.Program(5, 3, 1))
	is(t, api.ErrBits, s.Commit())
	isStaged(t, s, -1)
	is(t, api.ErrOrder, s.Commit())
	isCandidates(t, s, store.Candidate{Seq: 1, Words: []uint32{1}})
}

// P9.3: the next number is one more than the greatest of all; at MaxSeq there is none, and what is staged stays.
func TestSeq(t *testing.T) {
	for _, c := range []struct {
		runs, next uint32
		want       api.Errno
	}{
		{0, 1, api.OK}, {1, 2, api.OK}, {77, 78, api.OK}, {0x7ffffffe, 0x7fffffff, api.OK}, {0x7fffffff, 1 << 31, api.OK},
		{1 << 31, 0, api.ErrSeq}, {1<<31 + 1, 0, api.ErrSeq}, {blank - 1, 0, api.ErrSeq}, {blank, 0, api.ErrSeq},
	} {
		for i := range 2 {
			d, s := small(t)
			confirm(t, d, i, c.runs, 5)
			commit(t, d, 1-i, blank, 6) // blank when the next one is committed: it counts no more
			ok(t, s.Start(i))
			is(t, api.ErrOrder, s.Commit()) // ErrSeq comes behind it
			ok(t, s.Begin())
			is(t, api.ErrOrder, s.Commit())
			ok(t, s.Put(8))
			was := all(d)
			is(t, c.want, s.Commit())
			own := store.Candidate{Bank: i, Seq: c.runs, Words: []uint32{5}}
			if c.want == api.OK {
				isCandidates(t, s, store.Candidate{Bank: 1 - i, Seq: c.next, Trial: true, Words: []uint32{8}}, own)
				continue
			}
			isStaged(t, s, 1)
			is(t, api.ErrSeq, s.Commit())
			if !slices.Equal(all(d), was) {
				t.Error("something is turned")
			}
			ok(t, s.Put(9))
			isStaged(t, s, 2)
			isCandidates(t, s, own)
		}
	}
}

// P9.3: the state of the bank that is staged counts, too, if there is one.
func TestSeqOfBoth(t *testing.T) {
	for _, seq := range []uint32{1<<31 - 1, 1 << 31, blank} {
		d, s := small(t)
		ok(t, s.Install(5), s.Start(0), s.Begin(), s.Put(8))
		for w := range (header.Head{Seq: seq, Long: 1}).Writes() {
			ok(t, d.Program(5, w.At, w.Word))
		}
		for w := range header.Commits() {
			ok(t, d.Program(5, w.At, w.Word))
		}
		want := api.ErrSeq
		if seq < 1<<31 {
			want = api.ErrBits // as 1 << 31 isn't among the bits of what is there
		}
		is(t, want, s.Commit())
	}
}

// P9.3, P9.4: from bank to bank, again and again.
func TestRounds(t *testing.T) {
	_, s := small(t)
	ok(t, s.Install(0), s.Start(0))
	for n := uint32(1); n <= 40; n++ {
		i, was := int(n%2), store.Candidate{Bank: int(1 - n%2), Seq: n, Words: []uint32{n - 1}}
		isCandidatesFirst(t, s, was)
		ok(t, s.Begin(), s.Put(n), s.Commit())
		isCandidates(t, s, store.Candidate{Bank: i, Seq: n + 1, Trial: true, Words: []uint32{n}}, was)
		ok(t, s.Start(i))
		is(t, api.ErrOrder, s.Begin(), s.Put(1), s.Commit()) // on trial
		ok(t, s.Confirm())
		isCandidates(t, s, store.Candidate{Bank: i, Seq: n + 1, Words: []uint32{n}}, was)
	}
}

// isCandidatesFirst holds the first candidate against the one that is to be.
func isCandidatesFirst(t *testing.T, s *store.Store, want store.Candidate) {
	t.Helper()
	for c := range s.Candidates() {
		if !same(c, want) {
			t.Fatalf("%v, not %v", c, want)
		}
		return
	}
	t.Fatal("no candidate")
}

// P9.4: none that runs goes ahead of no power; then layer 8's errors.
func TestConfirm(t *testing.T) {
	for i := range 2 {
		d, s := small(t)
		commit(t, d, i, 7, 5)
		other := commit(t, d, 1-i, 8, 6)
		is(t, api.ErrOrder, s.Confirm())
		d.Power(false)
		is(t, api.ErrOrder, s.Confirm())
		d.Power(true)
		ok(t, s.Start(i))
		d.Power(false)
		was := all(d)
		is(t, api.ErrCut, s.Confirm(), s.Confirm())
		isRuns(t, s, i, false)
		if !slices.Equal(all(d), was) {
			t.Error("something is turned")
		}
		d.Power(true)
		ok(t, s.Confirm())
		isRuns(t, s, i, true)
		is(t, api.ErrOrder, s.Confirm())
		if other.State().Confirmed {
			t.Error("the other one is confirmed")
		}
		s.Stop()
		is(t, api.ErrOrder, s.Confirm())
	}
}

// P9.4: cut off, what runs is confirmed or not; what was cut off can be done again.
func TestConfirmCut(t *testing.T) {
	for _, seed := range seeds {
		for after := range 2 {
			d, s := small(t)
			ok(t, s.Install(5), s.Start(0), s.Begin(), s.Put(6), s.Commit(), s.Start(1))
			d.Arm(api.Cut{After: after, Seed: seed})
			is(t, api.ErrCut, s.Confirm())
			d.Power(true)
			i, runs := s.Runs()
			sure := s.Confirmed()
			if i != 1 || !runs || sure && after == 0 {
				t.Errorf("behind %d, seed %x: %d %v, confirmed %v", after, seed, i, runs, sure)
			}
			isCandidates(t, s, store.Candidate{Bank: 1, Seq: 2, Trial: !sure, Words: []uint32{6}}, store.Candidate{Seq: 1, Words: []uint32{5}})
			if !sure {
				ok(t, s.Confirm())
				isRuns(t, s, 1, true)
			}
		}
	}
}

// P9.4: what is installed is confirmed, of the number 1, in bank 0, whatever was there; the bank 1 stays.
func TestInstall(t *testing.T) {
	d, s := small(t)
	for _, l := range [][]uint32{{1, 2}, {3}, row(9, 28), {blank, 0}} {
		ok(t, s.Install(l...))
		isRuns(t, s, -1, false)
		isStaged(t, s, -1)
		isCandidates(t, s, store.Candidate{Seq: 1, Words: l})
		if b := half(t, d, 0).State(); !b.Confirmed || b.Trials != 0 {
			t.Error(b)
		}
	}
	confirm(t, d, 0, 50, 7)
	other := store.Candidate{Bank: 1, Seq: 60, Trial: true, Words: []uint32{8}}
	commit(t, d, 1, 60, 8)
	was := all(d)[1+4*15:]
	ok(t, s.Install(4))
	if !slices.Equal(all(d)[1+4*15:], was) {
		t.Error("bank 1 is turned")
	}
	isCandidates(t, s, other, store.Candidate{Seq: 1, Words: []uint32{4}})
}

// P9.4: while one runs, nothing is installed, also without power.
func TestInstallRuns(t *testing.T) {
	for i := range 2 {
		d, s := small(t)
		confirm(t, d, 1-i, 3, 5)
		commit(t, d, i, 2, 6)
		ok(t, s.Start(i))
		was := all(d)
		is(t, api.ErrOrder, s.Install(1), s.Install(), s.Install(row(1, 5000)...))
		d.Power(false)
		is(t, api.ErrOrder, s.Install(1))
		if !slices.Equal(all(d), was) {
			t.Error("something is turned")
		}
		isRuns(t, s, i, false)
		s.Stop()
		is(t, api.ErrCut, s.Install(1), s.Install(), s.Install(row(1, 5000)...))
		if !slices.Equal(all(d), was) {
			t.Error("something is turned")
		}
		d.Power(true)
		ok(t, s.Install(1))
	}
}

// P9.4: up to the first error: what was done ahead of it stays.
func TestInstallErrors(t *testing.T) {
	d, s := small(t)
	ok(t, s.Install(1))
	for _, c := range []struct {
		l    []uint32
		want api.Errno
	}{{nil, api.ErrOrder}, {row(1, 29), api.ErrFull}, {row(1, 4097), api.ErrFull}} {
		ops := d.Ops()
		is(t, c.want, s.Install(c.l...))
		isCandidates(t, s)
		if d.Ops() != ops+5 {
			t.Errorf("%d operations", d.Ops()-ops)
		}
		ok(t, s.Install(1))
	}
	// What was begun there stays begun.
	is(t, api.ErrOrder, s.Install())
	confirm(t, d, 1, 9, 7)
	ok(t, s.Start(1))
	isStaged(t, s, 0)
	ok(t, s.Put(6), s.Commit())
	isCandidates(t, s, store.Candidate{Bank: 0, Seq: 10, Trial: true, Words: []uint32{6}}, store.Candidate{Bank: 1, Seq: 9, Words: []uint32{7}})

	d = device(t, 6, 13, 2)
	s = of(t, d)
	ok(t, s.Install(1), s.Install(2))
	was := all(d)
	is(t, api.ErrWorn, s.Install(3))
	if !slices.Equal(all(d), was) {
		t.Error("something is turned")
	}
	isCandidates(t, s, store.Candidate{Seq: 1, Words: []uint32{2}})
}

// P9.4: in whichever operation the power goes, there is what was installed, none, or what was there; then it can be done anew.
func TestInstallCut(t *testing.T) {
	l := row(0x7f00ff00, 17)
	const ops = 1 + 4 + 17 + 8 + 2
	for _, seed := range seeds {
		for after := range ops + 1 {
			d, s := small(t)
			ok(t, s.Install(9))
			d.Arm(api.Cut{After: after, Seed: seed})
			e := s.Install(l...)
			if (e == api.OK) != (after == ops) || e != api.OK && e != api.ErrCut {
				t.Fatalf("behind %d: %v", after, e)
			}
			isRuns(t, s, -1, false)
			d.Power(true)
			for c := range s.Candidates() {
				sure := after >= ops-1
				if !(same(c, store.Candidate{Seq: 1, Words: []uint32{9}}) && after == 0 || after >= ops-3 && (same(c, store.Candidate{Seq: 1, Trial: true, Words: l}) || sure && same(c, store.Candidate{Seq: 1, Words: l}))) {
					t.Fatalf("behind %d, seed %x: %v", after, seed, c)
				}
			}
			if after < ops {
				ok(t, s.Install(l...))
				isCandidates(t, s, store.Candidate{Seq: 1, Words: l})
			}
		}
	}
}

// stage begins, puts and commits, up to the first error.
func stage(s *store.Store, l []uint32) api.Errno {
	if e := s.Begin(); e != api.OK {
		return e
	}
	for _, w := range l {
		if e := s.Put(w); e != api.OK {
			return e
		}
	}
	return s.Commit()
}

// P9.5: in whichever operation the power goes, the image that runs stays as it was, and the other one is there wholly, or not.
func TestCutOff(t *testing.T) {
	old, next := row(0x40, 20), row(0x7f00ff00, 17)
	for i := range 2 {
		for _, seed := range seeds {
			for after := range 1 + 4 + 17 + 8 + 1 {
				d, s := small(t)
				confirm(t, d, i, 6, old...)
				was := commit(t, d, 1-i, 9, 3)
				ok(t, s.Start(i))
				d.Arm(api.Cut{After: after, Seed: seed})
				e := stage(s, next)
				if (e == api.OK) != (after == 30) || e != api.OK && e != api.ErrCut {
					t.Fatalf("behind %d: %v", after, e)
				}
				isRuns(t, s, i, true)
				d.Power(true)
				s = of(t, d) // as behind a boot
				own := store.Candidate{Bank: i, Seq: 6, Words: old}
				there := store.Candidate{Bank: 1 - i, Seq: 9, Trial: true, Words: []uint32{3}}
				staged := store.Candidate{Bank: 1 - i, Seq: 7, Trial: true, Words: next}
				_, has := was.Image()
				switch {
				case after == 0 && has:
					isCandidates(t, s, there, own)
				case after == 30, after == 29 && has:
					isCandidates(t, s, staged, own)
				default:
					isCandidates(t, s, own)
				}
				ok(t, s.Start(i))
				if after < 30 {
					ok(t, stage(s, next))
					isCandidates(t, s, staged, own)
				}
			}
		}
	}
}

// P9.5: cut off again and again: the image that is confirmed and runs is never lost, and none but it and what was committed behind it is there.
func TestCutsOff(t *testing.T) {
	r := rand.New(rand.NewPCG(9, 5))
	d := device(t, 7, 13, 1<<20)
	s := of(t, d)
	ok(t, s.Install(1, 2))
	own := store.Candidate{Seq: 1, Words: []uint32{1, 2}}
	moved := 0
	for round := range 3000 {
		ok(t, s.Start(own.Bank))
		l := row(r.Uint32(), 1+r.IntN(5))
		d.Arm(api.Cut{After: r.IntN(25), Seed: r.Uint32() | r.Uint32()})
		e := stage(s, l)
		if r.IntN(3) == 0 {
			s.Start(1 - own.Bank)
			if i, _ := s.Runs(); i != own.Bank {
				s.Confirm()
			}
		}
		d.Power(true)
		s = of(t, d)
		staged := store.Candidate{Bank: 1 - own.Bank, Seq: own.Seq + 1, Words: l}
		many := 0
		for c := range s.Candidates() {
			switch {
			case c.Bank == own.Bank && !same(c, own), c.Bank != own.Bank && !same(c, store.Candidate{Bank: staged.Bank, Seq: staged.Seq, Trial: c.Trial, Words: l}):
				t.Fatalf("round %d: %v, %v beside %v", round, e, c, own)
			case c.Bank == own.Bank:
				many++
			}
		}
		if many != 1 {
			t.Fatalf("round %d: %v, %v is lost", round, e, own)
		}
		if half(t, d, staged.Bank).State().Confirmed {
			own = staged
			moved++
		}
	}
	if moved < 50 {
		t.Error("confirmed", moved, "times")
	}
}

// model is a store of a device of its own, told by layer 8's banks alone.
type model struct {
	d    *flash.Device
	l    []*bank.Bank
	runs *bank.Bank // nil: none
}

// candidates: those of both banks, the first one first.
func (m *model) candidates() []store.Candidate {
	var l []store.Candidate
	for i, b := range m.l {
		words, ok := b.Image()
		if st := b.State(); ok && (st.Confirmed || st.Trials != 3) {
			l = append(l, store.Candidate{Bank: i, Seq: st.Seq, Trial: !st.Confirmed, Words: words})
		}
	}
	if len(l) == 2 && l[1].Seq > l[0].Seq {
		slices.Reverse(l)
	}
	return l
}

func (m *model) start(i int) api.Errno {
	if i < 0 || i > 1 {
		return api.ErrOrder
	}
	if !m.d.On() {
		return api.ErrCut
	}
	for _, c := range m.candidates() {
		if c.Bank != i {
			continue
		}
		if c.Trial {
			if e := m.l[i].Try(); e != api.OK {
				return e
			}
		}
		m.runs = m.l[i]
		return api.OK
	}
	return api.ErrOrder
}

// other: the bank that doesn't run; its place is told by the one that does.
func (m *model) other() *bank.Bank {
	if m.runs == m.l[0] {
		return m.l[1]
	}
	return m.l[0]
}

// staging: does the store let an image be staged?
func (m *model) staging() api.Errno {
	switch {
	case !m.d.On():
		return api.ErrCut
	case m.runs == nil || !m.runs.State().Confirmed:
		return api.ErrOrder
	}
	return api.OK
}

func (m *model) begin() api.Errno {
	if e := m.staging(); e != api.OK {
		return e
	}
	return m.other().Begin()
}

func (m *model) put(l []uint32) api.Errno {
	if e := m.staging(); e != api.OK {
		return e
	}
	return m.other().Put(l...)
}

func (m *model) commit() api.Errno {
	if e := m.staging(); e != api.OK {
		return e
	}
	if many, _ := m.other().Open(); many == 0 {
		return api.ErrOrder
	}
	seq := max(m.l[0].State().Seq, m.l[1].State().Seq)
	if seq > 0x7fffffff {
		return api.ErrSeq
	}
	return m.other().Commit(seq + 1)
}

func (m *model) confirm() api.Errno {
	if m.runs == nil {
		return api.ErrOrder
	}
	return m.runs.Confirm()
}

func (m *model) install(l []uint32) api.Errno {
	if m.runs != nil {
		return api.ErrOrder
	}
	b := m.l[0]
	for _, call := range []func() api.Errno{b.Begin, func() api.Errno { return b.Put(l...) }, func() api.Errno { return b.Commit(1) }, b.Confirm} {
		if e := call(); e != api.OK {
			return e
		}
	}
	return api.OK
}

// hold holds all that a store answers, and its device, against a model.
func hold(t *testing.T, d *flash.Device, s *store.Store, m *model) {
	t.Helper()
	if !slices.Equal(all(d), all(m.d)) || d.On() != m.d.On() {
		t.Fatalf("%x %v, not %x %v", all(d), d.On(), all(m.d), m.d.On())
	}
	isCandidates(t, s, m.candidates()...)
	i := slices.Index(m.l, m.runs)
	isRuns(t, s, i, i >= 0 && m.runs.State().Confirmed)
	many := -1
	if m.staging() == api.OK {
		if n, open := m.other().Open(); open {
			many = n
		}
	}
	isStaged(t, s, many)
}

// P9.1 to P9.4: whatever is done, cuts and words that are spoilt among it.
func TestMixture(t *testing.T) {
	for seed := range uint64(60) {
		r := rand.New(rand.NewPCG(9, seed))
		sectors := 6 + r.IntN(4)
		d := device(t, sectors, 14, 1+r.IntN(40))
		s, m := of(t, d), &model{d: device(t, sectors, 14, d.Limit())}
		m.l = []*bank.Bank{half(t, m.d, 0), half(t, m.d, 1)}
		for range 500 {
			var e, want api.Errno
			switch n := r.IntN(60); {
			case n < 6:
				l := row(r.Uint32(), r.IntN(1+r.IntN(30)))
				e, want = s.Install(l...), m.install(l)
			case n < 18:
				i := r.IntN(4) - 1
				e, want = s.Start(i), m.start(i)
			case n < 24:
				e, want = s.Begin(), m.begin()
			case n < 36:
				l := row(r.Uint32(), r.IntN(1+r.IntN(20)))
				e, want = s.Put(l...), m.put(l)
			case n < 42:
				e, want = s.Commit(), m.commit()
			case n < 48:
				e, want = s.Confirm(), m.confirm()
			case n < 50:
				s.Stop()
				m.runs = nil
			case n < 53:
				c := api.Cut{After: r.IntN(30), Seed: r.Uint32()}
				d.Arm(c)
				m.d.Arm(c)
			case n < 59:
				on := n > 53
				d.Power(on)
				m.d.Power(on)
			default:
				sector, word, w := r.IntN(sectors), r.IntN(14), r.Uint32()|r.Uint32()|r.Uint32()
				e, want = d.Program(sector, word, w), m.d.Program(sector, word, w)
			}
			if e != want {
				t.Fatalf("seed %d: %v, not %v", seed, e, want)
			}
			hold(t, d, s, m)
		}
	}
}

// P2: two stores of two devices don't meet; two of one device meet there alone.
func TestApart(t *testing.T) {
	d, a := small(t)
	_, b := small(t)
	ok(t, a.Install(1), a.Start(0), a.Begin(), a.Put(2))
	isRuns(t, b, -1, false)
	isCandidates(t, b)
	ok(t, b.Install(3))
	isRuns(t, b, -1, false)
	c := of(t, d)
	isRuns(t, c, -1, false)
	isCandidates(t, c, store.Candidate{Seq: 1, Words: []uint32{1}})
	ok(t, c.Start(0))
	isStaged(t, c, -1)
	isStaged(t, a, 1)
	c.Stop()
	isRuns(t, a, 0, true)
}

// Rule 5: what is put isn't changed and isn't kept; a candidate's words are new memory.
func TestMemory(t *testing.T) {
	_, s := small(t)
	room := []uint32{1, 2, 3, 4}
	ok(t, s.Install(room[:2]...), s.Start(0), s.Begin(), s.Put(room[1:3]...))
	if !slices.Equal(room, []uint32{1, 2, 3, 4}) {
		t.Errorf("%x", room)
	}
	clear(room)
	ok(t, s.Commit())
	want := []store.Candidate{{Bank: 1, Seq: 2, Trial: true, Words: []uint32{2, 3}}, {Seq: 1, Words: []uint32{1, 2}}}
	for range 2 {
		isCandidates(t, s, want...)
		for c := range s.Candidates() {
			clear(c.Words)
			_ = append(c.Words[:1], 7, 7)
		}
	}
}

// The chapter's example.
func TestExample(t *testing.T) {
	_, s := small(t)
	ok(t, s.Install(1, 2))
	isCandidates(t, s, store.Candidate{Bank: 0, Seq: 1, Words: []uint32{1, 2}})
	ok(t, s.Start(0), s.Begin(), s.Put(3), s.Commit())
	isCandidates(t, s, store.Candidate{Bank: 1, Seq: 2, Trial: true, Words: []uint32{3}}, store.Candidate{Bank: 0, Seq: 1, Words: []uint32{1, 2}})
}
