package bank_test

import (
	"encoding/binary"
	"hash/crc32"
	"math"
	"math/rand/v2"
	"slices"
	"testing"

	"remontoir/api"
	"remontoir/bank"
	"remontoir/flash"
	"remontoir/header"
)

const blank = 0xffffffff

// seeds: masks that leave all, or nearly none, of what an operation turns, and others.
var seeds = []uint32{blank, 1, 2, 0x80000000, 0x0000ffff, 0xffff0000, 0x55555555, 77, 0xdeadbeef, 0}

// device: one that may be.
func device(t *testing.T, sectors, words, limit int) *flash.Device {
	t.Helper()
	d, e := flash.New(sectors, words, limit)
	if d == nil || e != api.OK {
		t.Fatalf("flash.New(%d, %d, %d): %v", sectors, words, limit, e)
	}
	return d
}

// of: a bank of a device that may be.
func of(t *testing.T, d *flash.Device, base, many int) *bank.Bank {
	t.Helper()
	b, e := bank.New(d, base, many)
	if b == nil || e != api.OK {
		t.Fatalf("New(%d, %d): %v", base, many, e)
	}
	return b
}

// small: a device of seven sectors of 14 words, and the bank of its sectors 2 to 5, which has room for 28 words.
func small(t *testing.T) (*flash.Device, *bank.Bank) {
	t.Helper()
	d := device(t, 7, 14, 100)
	return d, of(t, d, 2, 4)
}

// row: so many words from one on.
func row(from uint32, many int) []uint32 {
	var l []uint32
	for i := range many {
		l = append(l, from+uint32(i))
	}
	return l
}

// ok holds an error against OK.
func ok(t *testing.T, e api.Errno) {
	t.Helper()
	if e != api.OK {
		t.Fatal(e)
	}
}

// commit has the bank get an image.
func commit(t *testing.T, b *bank.Bank, seq uint32, l ...uint32) {
	t.Helper()
	ok(t, b.Begin())
	ok(t, b.Put(l...))
	ok(t, b.Commit(seq))
}

// isImage holds the bank's image against the words that it is to have.
func isImage(t *testing.T, b *bank.Bank, want ...uint32) {
	t.Helper()
	for range 2 {
		if l, ok := b.Image(); !ok || !slices.Equal(l, want) {
			t.Fatalf("Image: %x %v, not %x", l, ok, want)
		}
	}
}

// noImage: the bank has none.
func noImage(t *testing.T, b *bank.Bank) {
	t.Helper()
	if l, ok := b.Image(); ok || len(l) != 0 {
		t.Fatalf("Image: %x %v", l, ok)
	}
}

// isOpen holds Open against how many words were put; below 0: nothing is begun.
func isOpen(t *testing.T, b *bank.Bank, many int) {
	t.Helper()
	if n, ok := b.Open(); n != max(many, 0) || ok != (many >= 0) {
		t.Fatalf("Open: %d %v, not %d", n, ok, many)
	}
}

// isState holds the bank's state against another one.
func isState(t *testing.T, b *bank.Bank, want header.State) {
	t.Helper()
	for range 2 {
		if got := b.State(); got != want {
			t.Fatalf("State: %v, not %v", got, want)
		}
	}
}

// sum: the sum of words, told by the library.
func sum(l []uint32) uint32 {
	var all []byte
	for _, w := range l {
		all = binary.BigEndian.AppendUint32(all, w)
	}
	return crc32.ChecksumIEEE(all)
}

// head: the head of an image's words.
func head(seq uint32, l []uint32) header.Head {
	return header.Head{Seq: seq, Long: uint32(len(l)), Check: sum(l)}
}

// all: all words of a device, and how worn its sectors are.
func all(d *flash.Device) []uint32 {
	l := []uint32{uint32(d.Ops())}
	for i := range d.Sectors() {
		l = append(l, uint32(d.Worn(i)))
		l = append(l, d.Sector(i)...)
	}
	return l
}

// P8.1: each bound, one past it, and what is far off.
func TestNew(t *testing.T) {
	if bank.Least != 3 {
		t.Error(bank.Least)
	}
	d := device(t, 64, 13, 5)
	for base := range 62 {
		for many := 3; many <= 64-base; many++ {
			b := of(t, d, base, many)
			isOpen(t, b, -1)
			isState(t, b, header.State{})
			if b.Void() || b.Worn() {
				t.Errorf("%d, %d: %v, %v", base, many, b.Void(), b.Worn())
			}
		}
	}
	far := []int{-1, -2, -3, -64, 65, 128, 1 << 31, 1 << 32, 1<<32 + 3, -1 << 32, math.MinInt32, math.MinInt, math.MinInt + 1, math.MinInt + 64, math.MaxInt, math.MaxInt - 1, math.MaxInt - 3, math.MaxInt - 64}
	none := func(d *flash.Device, base, many int) {
		t.Helper()
		if b, e := bank.New(d, base, many); b != nil || e != api.ErrSize {
			t.Errorf("New(%d, %d): %v, %v", base, many, b, e)
		}
	}
	for base := range 66 {
		for _, many := range slices.Concat(far, []int{0, 1, 2}) {
			none(d, base, many)
		}
		none(d, base, 65-base)
	}
	for _, base := range slices.Concat(far, []int{62, 63, 64}) {
		for _, many := range slices.Concat(far, []int{0, 3, 4, 64}) {
			none(d, base, many)
		}
	}
	if d.Ops() != 0 {
		t.Error("New turns something")
	}
	for words := 1; words <= 12; words++ {
		none(device(t, 5, words, 5), 0, 3)
	}
	none(nil, 0, 3)
	none(new(flash.Device), 0, 3)
}

// P8.1: all sectors behind the second one have data, as many words as an image may have.
func TestRoom(t *testing.T) {
	for _, c := range []struct{ many, words, room int }{
		{3, 13, 13}, {4, 13, 26}, {3, 1024, 1024}, {5, 1024, 3072}, {6, 1024, 4096}, {7, 1024, 4096}, {64, 1024, 4096}, {64, 13, 806}, {64, 66, 4092}, {64, 67, 4096}, {10, 512, 4096}, {9, 512, 3584},
	} {
		if b := of(t, device(t, 64, c.words, 5), 0, c.many); b.Room() != c.room {
			t.Errorf("%d sectors of %d words: %d, not %d", c.many, c.words, b.Room(), c.room)
		}
	}
}

// P8.1 to P8.4, the chapter's words: where what lies.
func TestWhere(t *testing.T) {
	d, b := small(t)
	ok(t, d.Program(2, 3, 6)) // of the void sector and the others', too, all is erased
	ok(t, d.Program(3, 13, 5))
	ok(t, d.Program(5, 13, 4))
	ok(t, d.Program(1, 0, 9))
	ok(t, d.Program(6, 0, 8))
	l := row(100, 20)
	commit(t, b, 7, l...)
	free := slices.Repeat([]uint32{blank}, 14)
	h := head(7, l)
	want := [][]uint32{
		free,
		append([]uint32{9}, free[1:]...),
		free,
		{7, ^uint32(7), 20, ^uint32(20), h.Check, ^h.Check, 0x636f6d6d, ^uint32(0x636f6d6d), blank, blank, blank, blank, blank, blank},
		l[:14],
		append(slices.Clone(l[14:]), free[6:]...),
		append([]uint32{8}, free[1:]...),
	}
	for i, w := range want {
		if got := d.Sector(i); !slices.Equal(got, w) {
			t.Errorf("Sector(%d): %x, not %x", i, got, w)
		}
	}
	if d.Ops() != 5+1+4+20+8 {
		t.Error(d.Ops())
	}
	ok(t, b.Try())
	ok(t, b.Try())
	ok(t, b.Confirm())
	copy(want[3][8:], []uint32{0x636f6e66, ^uint32(0x636f6e66), 0, 0})
	if got := d.Sector(3); !slices.Equal(got, want[3]) {
		t.Errorf("%x, not %x", got, want[3])
	}
	if d.Ops() != 5+1+4+20+8+4 {
		t.Error(d.Ops())
	}
}

// P8.1 to P8.3: an image as long as there is room for, put at once, word by word, and in pieces; at the greatest room, too.
func TestFull(t *testing.T) {
	for _, c := range []struct{ many, words int }{{3, 13}, {4, 14}, {6, 1024}, {8, 1024}} {
		for _, step := range []int{1, 5, 14, 1 << 20} {
			b := of(t, device(t, 8, c.words, 5), 0, c.many)
			want := row(5, b.Room())
			ok(t, b.Begin())
			for piece := range slices.Chunk(want, step) {
				ok(t, b.Put(piece...))
			}
			isOpen(t, b, len(want))
			if e := b.Put(1); e != api.ErrFull {
				t.Errorf("Put: %v", e)
			}
			ok(t, b.Commit(3))
			isImage(t, b, want...)
			isState(t, b, header.State{Head: head(3, want), Valid: true})
		}
	}
}

// P8.1: the bank is void where word 0 of its first sector isn't Blank, in whichever bit.
func TestVoid(t *testing.T) {
	for bit := range 32 {
		d, b := small(t)
		commit(t, b, 7, 1, 2)
		ok(t, b.Try())
		ok(t, d.Program(2, 1, 0))
		ok(t, d.Program(1, 0, 0))
		isImage(t, b, 1, 2)
		ok(t, d.Program(2, 0, ^(uint32(1)<<bit)))
		if !b.Void() {
			t.Errorf("bit %d: isn't void", bit)
		}
		isState(t, b, header.State{Trials: 1})
		noImage(t, b)
		if a, e := b.Confirm(), b.Try(); a != api.ErrOrder || e != api.ErrOrder {
			t.Error(a, e)
		}
	}
}

// raw writes a header by hand, and words of data behind it.
func raw(t *testing.T, d *flash.Device, h header.Head, l ...uint32) {
	t.Helper()
	for w := range h.Writes() {
		ok(t, d.Program(3, w.At, w.Word))
	}
	for w := range header.Commits() {
		ok(t, d.Program(3, w.At, w.Word))
	}
	for i, w := range l {
		ok(t, d.Program(4+i/14, i%14, w))
	}
}

// P8.1: a Long above Room isn't valid, whatever int it becomes; just Room is.
func TestLong(t *testing.T) {
	for _, long := range []uint32{0, 1, 27, 28, 29, 30, 4096, 4097, 1 << 31, 1<<31 - 1, 1<<31 + 5, blank, blank - 1} {
		d, b := small(t)
		h := header.Head{Seq: 9, Long: long, Check: 5}
		raw(t, d, h)
		ok(t, d.Program(3, 12, 7))
		if long > 28 {
			isState(t, b, header.State{Trials: 1})
		} else {
			isState(t, b, header.State{Head: h, Valid: true, Trials: 1})
		}
		noImage(t, b) // the sum is another one
		want := api.ErrOrder
		if long <= 28 {
			want = api.OK
		}
		if a, e := b.Try(), b.Confirm(); a != want || e != want {
			t.Errorf("Long %x: %v, %v, not %v", long, a, e, want)
		}
	}
}

// P8.1, P8.2: a header that isn't committed, and one that is without words.
func TestHeader(t *testing.T) {
	d, b := small(t)
	raw(t, d, header.Head{Seq: 4})
	isImage(t, b)
	isState(t, b, header.State{Head: header.Head{Seq: 4}, Valid: true})
	d.Power(false)
	noImage(t, b)
	d, b = small(t)
	raw(t, d, header.Head{Seq: 4, Check: 1})
	noImage(t, b)
	d, b = small(t)
	for w := range head(4, []uint32{5}).Writes() {
		ok(t, d.Program(3, w.At, w.Word))
	}
	ok(t, d.Program(4, 0, 5))
	isState(t, b, header.State{})
	noImage(t, b)
	ok(t, d.Program(3, 6, 0x636f6d6d))
	noImage(t, b)
	ok(t, d.Program(3, 7, 0x9c909292))
	isImage(t, b, 5)
}

// P8.2: with any bit turned of what the header tells there is no image; behind it bits count for nothing.
func TestSpoiltData(t *testing.T) {
	l := []uint32{blank, 0xf0f0f0f0, 3, blank, 9, 8, 7, 6, 5, 4, 3, 2, 1, 0, 0x10, blank}
	for place := range len(l) * 32 {
		d, b := small(t)
		commit(t, b, 1, l...)
		at, bit := place/32, uint32(1)<<(place%32)
		ok(t, d.Program(4+at/14, at%14, l[at]&^bit))
		if l[at]&bit != 0 {
			noImage(t, b)
		} else {
			isImage(t, b, l...)
		}
	}
	d, b := small(t)
	commit(t, b, 1, l...)
	ok(t, d.Program(5, 2, 0))
	ok(t, d.Program(5, 13, 0))
	isImage(t, b, l...)
}

// P8.1 to P8.4, rule 2: what is told and done without power.
func TestPower(t *testing.T) {
	d, b := small(t)
	commit(t, b, 7, 1, 2)
	ok(t, b.Try())
	state := header.State{Head: head(7, []uint32{1, 2}), Valid: true, Trials: 1}
	d.Power(false)
	was := all(d)
	isState(t, b, state)
	noImage(t, b)
	if b.Void() || b.Worn() || b.Room() != 28 {
		t.Error(b.Void(), b.Worn(), b.Room())
	}
	for range 2 {
		if a, e := b.Try(), b.Confirm(); a != api.ErrCut || e != api.ErrCut {
			t.Error(a, e)
		}
		if e := b.Begin(); e != api.ErrCut {
			t.Error(e)
		}
		if a, e := b.Put(1), b.Commit(1); a != api.ErrOrder || e != api.ErrOrder {
			t.Error(a, e)
		}
	}
	if !slices.Equal(all(d), was) {
		t.Error("something is turned")
	}
	d.Power(true)
	isState(t, b, state)
	isImage(t, b, 1, 2)
	ok(t, d.Program(2, 0, 0))
	d.Power(false)
	if !b.Void() {
		t.Error("isn't void")
	}
	// ErrCut goes ahead of ErrOrder, and of ErrWorn.
	d = device(t, 3, 13, 0)
	b = of(t, d, 0, 3)
	d.Power(false)
	if l := []api.Errno{b.Begin(), b.Confirm(), b.Try()}; !slices.Equal(l, []api.Errno{api.ErrCut, api.ErrCut, api.ErrCut}) {
		t.Error(l)
	}
	d.Power(true)
	if l := []api.Errno{b.Begin(), b.Confirm(), b.Try()}; !slices.Equal(l, []api.Errno{api.ErrWorn, api.ErrOrder, api.ErrOrder}) {
		t.Error(l)
	}
}

// P8.3: the power goes between two calls: what was begun stays, till the device says so.
func TestPowerBetween(t *testing.T) {
	d, b := small(t)
	ok(t, b.Begin())
	ok(t, b.Put(1))
	d.Power(false)
	isOpen(t, b, 1)
	ok(t, b.Put())
	d.Power(true)
	ok(t, b.Put(2))
	isOpen(t, b, 2)
	ok(t, b.Commit(3))
	isImage(t, b, 1, 2)

	ok(t, b.Begin())
	ok(t, b.Put(1))
	d.Power(false)
	if e := b.Put(2); e != api.ErrCut {
		t.Error(e)
	}
	isOpen(t, b, -1)
	d.Power(true)
	if a, e := b.Put(2), b.Commit(4); a != api.ErrOrder || e != api.ErrOrder {
		t.Error(a, e)
	}
	noImage(t, b)

	ok(t, b.Begin())
	ok(t, b.Put(1))
	d.Power(false)
	if e := b.Commit(4); e != api.ErrCut {
		t.Error(e)
	}
	isOpen(t, b, -1)
	d.Power(true)
	if e := b.Commit(4); e != api.ErrOrder {
		t.Error(e)
	}

	ok(t, b.Begin())
	ok(t, b.Put(1))
	d.Power(false)
	if e := b.Begin(); e != api.ErrCut {
		t.Error(e)
	}
	isOpen(t, b, -1)
	d.Power(true)
	if e := b.Put(1); e != api.ErrOrder {
		t.Error(e)
	}
}

// P8.3: the word that says so, the header, the data one behind the other, and at last the first sector: so far as the power lets.
func TestBeginOrder(t *testing.T) {
	for after := range 7 {
		d, b := small(t)
		commit(t, b, 7, row(1, 28)...)
		isOpen(t, b, -1)
		d.Arm(api.Cut{After: after, Seed: 1})
		e := b.Begin()
		worn := []int{0, 0, 1, 1, 1, 1, 0}
		for i, sector := range []int{3, 4, 5, 2} {
			if after > i {
				worn[sector]++
			}
		}
		for i, want := range worn {
			if d.Worn(i) != want {
				t.Errorf("behind %d: sector %d is worn %d, not %d", after, i, d.Worn(i), want)
			}
		}
		if after > 4 {
			ok(t, e)
			isOpen(t, b, 0)
			if b.Void() {
				t.Error("is void")
			}
			continue
		}
		isOpen(t, b, -1)
		if e != api.ErrCut || d.Sector(2)[1] != blank || !b.Void() {
			t.Errorf("behind %d: %v, void %v", after, e, b.Void())
		}
		d.Power(true)
		if a, e := b.Put(1), b.Commit(1); a != api.ErrOrder || e != api.ErrOrder {
			t.Error(a, e)
		}
		noImage(t, b)
		ok(t, b.Begin())
		isOpen(t, b, 0)
	}
}

// P8.3: begun once more, what was put is gone.
func TestBeginAgain(t *testing.T) {
	d, b := small(t)
	ok(t, b.Begin())
	ok(t, b.Put(1, 2, 3))
	ok(t, b.Begin())
	isOpen(t, b, 0)
	for _, sector := range []int{2, 3, 4, 5} {
		if l := d.Sector(sector); !slices.Equal(l, slices.Repeat([]uint32{blank}, 14)) {
			t.Errorf("%x", l)
		}
	}
	if e := b.Commit(1); e != api.ErrOrder {
		t.Error(e)
	}
	ok(t, b.Put(9))
	ok(t, b.Commit(1))
	isImage(t, b, 9)
}

// P8.1, P8.3: a bank is worn if one of its sectors is, and no other one; then nothing is turned.
func TestWorn(t *testing.T) {
	for sector := range 7 {
		d := device(t, 7, 14, 3)
		b := of(t, d, 2, 4)
		commit(t, b, 7, 1, 2)
		for d.Worn(sector) < 3 {
			if b.Worn() {
				t.Errorf("sector %d: worn by %d", sector, d.Worn(sector))
			}
			ok(t, d.Erase(sector))
		}
		was := all(d)
		inside := sector >= 2 && sector <= 5
		if b.Worn() != inside {
			t.Errorf("sector %d: %v", sector, b.Worn())
		}
		if !inside {
			commit(t, b, 9, 5)
			continue
		}
		if e := b.Begin(); e != api.ErrWorn || !slices.Equal(all(d), was) {
			t.Errorf("sector %d: %v", sector, e)
		}
		if e := b.Put(1); e != api.ErrOrder {
			t.Error(e)
		}
		if sector > 3 {
			isState(t, b, header.State{Head: head(7, []uint32{1, 2}), Valid: true})
		}
	}
	if !of(t, device(t, 3, 13, 0), 0, 3).Worn() {
		t.Error("isn't worn")
	}
}

// P8.1, P8.3: worn by Begin itself, what is begun goes on; begun once more it is no more.
func TestWornOpen(t *testing.T) {
	b := of(t, device(t, 3, 13, 1), 0, 3)
	ok(t, b.Begin())
	ok(t, b.Put(5))
	if !b.Worn() {
		t.Error("isn't worn")
	}
	ok(t, b.Commit(1))
	isImage(t, b, 5)
	b = of(t, device(t, 3, 13, 1), 0, 3)
	ok(t, b.Begin())
	ok(t, b.Put(5))
	if e := b.Begin(); e != api.ErrWorn {
		t.Error(e)
	}
	isOpen(t, b, -1)
	if a, e := b.Put(5), b.Commit(1); a != api.ErrOrder || e != api.ErrOrder {
		t.Error(a, e)
	}
}

// P8.3, rule 4: what has no room isn't put, not even in part; none is always.
func TestPut(t *testing.T) {
	d, b := small(t)
	was := all(d)
	for range 2 {
		if a, e := b.Put(), b.Put(1, 2); a != api.ErrOrder || e != api.ErrOrder {
			t.Error(a, e)
		}
		isOpen(t, b, -1)
	}
	if e := b.Put(row(1, 5000)...); e != api.ErrOrder || !slices.Equal(all(d), was) {
		t.Error(e)
	}
	ok(t, b.Begin())
	want := row(50, 28)
	for n := range want {
		isOpen(t, b, n)
		was = all(d)
		for _, more := range []int{29 - n, 30 - n, 5000} {
			if e := b.Put(row(1, more)...); e != api.ErrFull {
				t.Errorf("%d behind %d: %v", more, n, e)
			}
		}
		ok(t, b.Put())
		if !slices.Equal(all(d), was) {
			t.Error("something is turned")
		}
		ok(t, b.Put(want[n]))
	}
	ok(t, b.Put())
	isOpen(t, b, 28)
	ok(t, b.Commit(blank))
	isImage(t, b, want...)
	if e := b.Put(); e != api.ErrOrder {
		t.Error(e)
	}
}

// P8.3: an error of the device ends it, there where it came.
func TestPutErrors(t *testing.T) {
	for at := range 5 {
		d, b := small(t)
		ok(t, b.Begin())
		ok(t, b.Put(1, 2))
		ok(t, d.Program(4, 2+at, 0))
		if e := b.Put(31, 32, 33, 34, 35); e != api.ErrBits {
			t.Error(e)
		}
		isOpen(t, b, -1)
		want := append([]uint32{1, 2}, row(31, at)...)
		want = append(want, 0, blank, blank, blank, blank)[:7]
		if got := d.Sector(4)[:7]; !slices.Equal(got, want) {
			t.Errorf("%x, not %x", got, want)
		}
		if a, e := b.Put(0), b.Commit(3); a != api.ErrOrder || e != api.ErrOrder {
			t.Error(a, e)
		}
		noImage(t, b)
	}
	for after := range 5 {
		d, b := small(t)
		ok(t, b.Begin())
		d.Arm(api.Cut{After: after, Seed: blank})
		if e := b.Put(31, 32, 33, 34, 35); e != api.ErrCut {
			t.Error(e)
		}
		isOpen(t, b, -1)
		d.Power(true)
		if got, want := d.Sector(4)[:after+1], append(row(31, after), blank); !slices.Equal(got, want) {
			t.Errorf("%x, not %x", got, want)
		}
		if a, e := b.Put(0), b.Commit(3); a != api.ErrOrder || e != api.ErrOrder {
			t.Error(a, e)
		}
	}
}

// P8.4: with any number; what was begun is no more then.
func TestCommit(t *testing.T) {
	for _, seq := range []uint32{0, 1, 7, 1 << 31, blank, 0x636f6d6d} {
		d, b := small(t)
		if e := b.Commit(seq); e != api.ErrOrder || d.Ops() != 0 {
			t.Error(e)
		}
		ok(t, b.Begin())
		was := all(d)
		if e := b.Commit(seq); e != api.ErrOrder || !slices.Equal(all(d), was) {
			t.Error(e)
		}
		isOpen(t, b, 0)
		ok(t, b.Put())
		if e := b.Commit(seq); e != api.ErrOrder {
			t.Error(e)
		}
		ok(t, b.Put(5, 6))
		noImage(t, b)
		ok(t, b.Commit(seq))
		isOpen(t, b, -1)
		isImage(t, b, 5, 6)
		isState(t, b, header.State{Head: head(seq, []uint32{5, 6}), Valid: true})
		if a, e := b.Commit(seq), b.Put(7); a != api.ErrOrder || e != api.ErrOrder {
			t.Error(a, e)
		}
		isImage(t, b, 5, 6)
	}
}

// P8.4: a word of the header that can't be programmed ends it; what was begun is no more.
func TestCommitBits(t *testing.T) {
	for at := range 8 {
		d, b := small(t)
		ok(t, b.Begin())
		ok(t, b.Put(5, 6))
		ok(t, d.Program(3, at, 0x10000))
		if e := b.Commit(7); e != api.ErrBits {
			t.Error(e)
		}
		isOpen(t, b, -1)
		noImage(t, b)
		if d.Sector(3)[7] != blank && at != 7 {
			t.Error("it went on")
		}
		if e := b.Commit(7); e != api.ErrOrder {
			t.Error(e)
		}
	}
}

// P8.4: what is told of the words is what was put, also where others lie then.
func TestCommitOther(t *testing.T) {
	d, b := small(t)
	ok(t, b.Begin())
	ok(t, b.Put(5, 6))
	ok(t, d.Program(4, 1, 2))
	ok(t, b.Commit(7))
	isState(t, b, header.State{Head: head(7, []uint32{5, 6}), Valid: true})
	noImage(t, b)
}

// P8.4: a bank is confirmed once, an image alone, also on its last trial.
func TestConfirm(t *testing.T) {
	d, b := small(t)
	refused := func() {
		t.Helper()
		was := all(d)
		for range 2 {
			if e := b.Confirm(); e != api.ErrOrder || !slices.Equal(all(d), was) {
				t.Error(e)
			}
		}
	}
	refused()
	ok(t, b.Begin())
	refused()
	ok(t, b.Put(1))
	refused()
	isOpen(t, b, 1)
	ok(t, b.Commit(7))
	for range 3 {
		ok(t, b.Try())
	}
	ok(t, b.Confirm())
	isState(t, b, header.State{Head: head(7, []uint32{1}), Valid: true, Confirmed: true, Trials: 3})
	refused()
	isImage(t, b, 1)
	ok(t, d.Program(4, 0, 0)) // the words don't count for the state
	noImage(t, b)
	refused()
	commit(t, b, 8, 2)
	ok(t, d.Program(4, 0, 0))
	ok(t, b.Confirm())
}

// P8.4, rule 4: where a word can't be programmed, neither is.
func TestConfirmSpoilt(t *testing.T) {
	for bit := range 32 {
		for at, target := range map[int]uint32{8: 0x636f6e66, 9: 0x9c909199} {
			d, b := small(t)
			commit(t, b, 7, 1)
			w := ^(uint32(1) << bit)
			ok(t, d.Program(3, at, w))
			was := all(d)
			spoilt := target&^w != 0
			e := b.Confirm()
			if spoilt && (e != api.ErrOrder || !slices.Equal(all(d), was)) || !spoilt && e != api.OK {
				t.Errorf("word %d without the bit %d: %v", at, bit, e)
			}
			if b.State().Confirmed == spoilt {
				t.Error(b.State())
			}
			isImage(t, b, 1)
		}
	}
}

// P8.4: cut off, it is confirmed or not; what was cut off can be done again.
func TestConfirmCut(t *testing.T) {
	for after := range 3 {
		for _, seed := range seeds {
			d, b := small(t)
			commit(t, b, 7, 1, 2)
			d.Arm(api.Cut{After: after, Seed: seed})
			e := b.Confirm()
			if after == 2 {
				ok(t, e)
				continue
			}
			if e != api.ErrCut {
				t.Error(e)
			}
			if e := b.Confirm(); e != api.ErrCut {
				t.Error(e)
			}
			d.Power(true)
			isImage(t, b, 1, 2)
			if done := b.State().Confirmed; done && (after == 0 || d.Sector(3)[9] != 0x9c909199) {
				t.Error(b.State())
			} else if !done {
				ok(t, b.Confirm())
			}
			if !b.State().Confirmed || b.Confirm() != api.ErrOrder {
				t.Error(b.State())
			}
		}
	}
}

// P8.4: as many trials as there are, while the image isn't confirmed.
func TestTry(t *testing.T) {
	d, b := small(t)
	if e := b.Try(); e != api.ErrOrder {
		t.Error(e)
	}
	ok(t, b.Begin())
	ok(t, b.Put(1))
	if e := b.Try(); e != api.ErrOrder {
		t.Error(e)
	}
	ok(t, b.Commit(7))
	for n := range 3 {
		isState(t, b, header.State{Head: head(7, []uint32{1}), Valid: true, Trials: n})
		ok(t, b.Try())
		if l := d.Sector(3); l[10+n] != 0 || !slices.Equal(l[11+n:], slices.Repeat([]uint32{blank}, 3-n)) {
			t.Errorf("%x", l)
		}
	}
	was := all(d)
	for range 2 {
		if e := b.Try(); e != api.ErrOrder || !slices.Equal(all(d), was) {
			t.Error(e)
		}
	}
	isImage(t, b, 1)
	commit(t, b, 8, 2)
	ok(t, b.Try())
	ok(t, b.Confirm())
	if e := b.Try(); e != api.ErrOrder || b.State().Trials != 1 {
		t.Error(e, b.State())
	}
}

// P8.4: a word of a trial that was spoilt counts as used up; the next one is the first that is Blank.
func TestTrySpoilt(t *testing.T) {
	for set := range 8 {
		d, b := small(t)
		commit(t, b, 7, 1)
		var free []int
		for i := range 3 {
			if set>>i&1 == 1 {
				ok(t, d.Program(3, 10+i, 0x7fffffff))
			} else {
				free = append(free, 10+i)
			}
		}
		for _, at := range free {
			ok(t, b.Try())
			if l := d.Sector(3); l[at] != 0 {
				t.Errorf("%x, not %d", l, at)
			}
		}
		if e := b.Try(); e != api.ErrOrder || b.State().Trials != 3 {
			t.Error(e, b.State())
		}
	}
}

// P8.4: a trial that is cut off is used up, or isn't; the image stays.
func TestTryCut(t *testing.T) {
	for _, seed := range seeds {
		d, b := small(t)
		commit(t, b, 7, 1)
		d.Arm(api.Cut{Seed: seed})
		if e := b.Try(); e != api.ErrCut || d.On() {
			t.Error(e)
		}
		d.Power(true)
		left := max(seed, 1)
		trials := 1
		if left == blank {
			trials = 0
		}
		if d.Sector(3)[10] != left {
			t.Errorf("%x, not %x", d.Sector(3), left)
		}
		isState(t, b, header.State{Head: head(7, []uint32{1}), Valid: true, Trials: trials})
		isImage(t, b, 1)
	}
}

// P8.5: in whichever operation the power goes, the image is the old one, none, or the new one; and then it can be done anew.
func TestCutOff(t *testing.T) {
	old, next := row(0x40, 20), row(0x7f00ff00, 17)
	for _, seed := range seeds {
		for after := range 1 + 4 + 17 + 8 + 1 {
			d, b := small(t)
			commit(t, b, 7, old...)
			ok(t, b.Confirm())
			d.Arm(api.Cut{After: after, Seed: seed})
			e := stage(b, next)
			d.Power(true)
			b = of(t, d, 2, 4) // as behind a boot
			isOpen(t, b, -1)
			l, has := b.Image()
			void := d.Sector(2)[0] != blank
			switch {
			case after == 0 && !void:
				isImage(t, b, old...)
			case e == api.OK:
				isImage(t, b, next...)
			case after == 1+4+17+7 && has: // the last word is whole
				isImage(t, b, next...)
			default:
				noImage(t, b)
			}
			if (e == api.OK) != (after > 29) || b.Void() != void {
				t.Fatalf("behind %d, seed %x: %v, %x %v", after, seed, e, l, has)
			}
			if e != api.OK { // else the cut is armed yet
				ok(t, stage(b, next))
				isImage(t, b, next...)
			}
		}
	}
}

// stage begins, puts and commits, up to the first error.
func stage(b *bank.Bank, l []uint32) api.Errno {
	if e := b.Begin(); e != api.OK {
		return e
	}
	for _, w := range l {
		if e := b.Put(w); e != api.OK {
			return e
		}
	}
	return b.Commit(8)
}

// P8.5: cut off again and again, with any seeds: none but what was committed wholly.
func TestCutsOff(t *testing.T) {
	r := rand.New(rand.NewPCG(8, 5))
	d := device(t, 5, 13, 1<<20)
	b := of(t, d, 1, 4)
	var last []uint32 // what was committed wholly
	for round := range 3000 {
		l := row(r.Uint32(), 1+r.IntN(5))
		d.Arm(api.Cut{After: r.IntN(22), Seed: r.Uint32() | r.Uint32()})
		e := stage(b, l)
		d.Power(true)
		got, has := b.Image()
		switch {
		case has && slices.Equal(got, l):
			last = l
		case e == api.OK, has && !slices.Equal(got, last):
			t.Fatalf("round %d: %v, %x %v of %x behind %x", round, e, got, has, l, last)
		case !has:
			last = nil
		}
	}
}

// model is the bank of the sectors 2 to 5 of a device of its own, told by that device's calls and words alone.
type model struct {
	d    *flash.Device
	open bool
	put  []uint32
}

// state: how far the bank is.
func (m *model) state() header.State {
	l := m.d.Sector(3)
	var s header.State
	for _, w := range l[10:13] {
		if w != blank {
			s.Trials++
		}
	}
	right := l[0]^l[1] == blank && l[2]^l[3] == blank && l[4]^l[5] == blank && l[6] == 0x636f6d6d && l[7] == 0x9c909292
	if right && l[2] <= 28 && m.d.Sector(2)[0] == blank {
		s.Head, s.Valid = header.Head{Seq: l[0], Long: l[2], Check: l[4]}, true
		s.Confirmed = l[8] == 0x636f6e66 && l[9] == 0x9c909199
	}
	return s
}

func (m *model) image() []uint32 {
	s := m.state()
	l := slices.Concat(m.d.Sector(4), m.d.Sector(5))[:s.Long]
	if !s.Valid || !m.d.On() || sum(l) != s.Check {
		return nil
	}
	return l
}

// first: the first error of some calls; those behind it aren't made.
func first(l ...func() api.Errno) api.Errno {
	for _, call := range l {
		if e := call(); e != api.OK {
			return e
		}
	}
	return api.OK
}

// program: a call that programs a word.
func (m *model) program(sector, word int, w uint32) func() api.Errno {
	return func() api.Errno {
		return m.d.Program(sector, word, w)
	}
}

// programs: calls that program the words of the header from one on.
func (m *model) programs(from int, l ...uint32) []func() api.Errno {
	var calls []func() api.Errno
	for i, w := range l {
		calls = append(calls, m.program(3, from+i, w))
	}
	return calls
}

func (m *model) begin() api.Errno {
	m.open, m.put = false, nil
	calls := []func() api.Errno{m.program(2, 0, 0)}
	for _, sector := range []int{3, 4, 5, 2} {
		calls = append(calls, func() api.Errno { return m.d.Erase(sector) })
		if m.d.On() && m.d.Worn(sector) == m.d.Limit() {
			return api.ErrWorn
		}
	}
	e := first(calls...)
	m.open = e == api.OK
	return e
}

func (m *model) puts(l []uint32) api.Errno {
	switch {
	case !m.open:
		return api.ErrOrder
	case len(m.put)+len(l) > 28:
		return api.ErrFull
	}
	for _, w := range l {
		at := len(m.put)
		if e := m.d.Program(4+at/14, at%14, w); e != api.OK {
			m.open = false
			return e
		}
		m.put = append(m.put, w)
	}
	return api.OK
}

func (m *model) commit(seq uint32) api.Errno {
	if !m.open || len(m.put) == 0 {
		return api.ErrOrder
	}
	m.open = false
	h := head(seq, m.put)
	return first(m.programs(0, h.Seq, ^h.Seq, h.Long, ^h.Long, h.Check, ^h.Check, 0x636f6d6d, 0x9c909292)...)
}

func (m *model) confirm() api.Errno {
	s, l := m.state(), m.d.Sector(3)
	switch {
	case !m.d.On():
		return api.ErrCut
	case !s.Valid || s.Confirmed || 0x636f6e66&^l[8] != 0 || 0x9c909199&^l[9] != 0:
		return api.ErrOrder
	}
	return first(m.programs(8, 0x636f6e66, 0x9c909199)...)
}

func (m *model) try() api.Errno {
	s, next := m.state(), slices.Index(m.d.Sector(3)[10:13], blank)
	switch {
	case !m.d.On():
		return api.ErrCut
	case !s.Valid || s.Confirmed || next < 0:
		return api.ErrOrder
	}
	return m.d.Program(3, 10+next, 0)
}

// hold holds all that a bank answers, and its device, against a model.
func hold(t *testing.T, d *flash.Device, b *bank.Bank, m *model) {
	t.Helper()
	if !slices.Equal(all(d), all(m.d)) || d.On() != m.d.On() {
		t.Fatalf("%x %v, not %x %v", all(d), d.On(), all(m.d), m.d.On())
	}
	isState(t, b, m.state())
	if m.open {
		isOpen(t, b, len(m.put))
	} else {
		isOpen(t, b, -1)
	}
	if l, ok := b.Image(); !slices.Equal(l, m.image()) || ok != (len(l) > 0) {
		t.Fatalf("Image: %x %v, not %x", l, ok, m.image())
	}
	worn := false
	for sector := 2; sector <= 5; sector++ {
		worn = worn || m.d.Worn(sector) == m.d.Limit()
	}
	if b.Worn() != worn || b.Void() != (m.d.Sector(2)[0] != blank) {
		t.Fatalf("Worn %v, Void %v", b.Worn(), b.Void())
	}
}

// P8.1 to P8.4: whatever is done, cuts and words that are spoilt among it.
func TestMixture(t *testing.T) {
	for seed := range uint64(60) {
		r := rand.New(rand.NewPCG(8, seed))
		d := device(t, 7, 14, 1+r.IntN(40))
		b, m := of(t, d, 2, 4), &model{d: device(t, 7, 14, d.Limit())}
		for range 400 {
			var e, want api.Errno
			switch n := r.IntN(40); {
			case n < 4:
				e, want = b.Begin(), m.begin()
			case n < 18:
				l := row(r.Uint32(), r.IntN(1+r.IntN(30)))
				e, want = b.Put(l...), m.puts(l)
			case n < 24:
				seq := r.Uint32()
				e, want = b.Commit(seq), m.commit(seq)
			case n < 28:
				e, want = b.Confirm(), m.confirm()
			case n < 32:
				e, want = b.Try(), m.try()
			case n < 34:
				c := api.Cut{After: r.IntN(30), Seed: r.Uint32()}
				d.Arm(c)
				m.d.Arm(c)
			case n < 39:
				on := n > 34
				d.Power(on)
				m.d.Power(on)
			default:
				sector, word, w := 2+r.IntN(4), r.IntN(14), r.Uint32()|r.Uint32()|r.Uint32()
				e, want = d.Program(sector, word, w), m.d.Program(sector, word, w)
			}
			if e != want {
				t.Fatalf("seed %d: %v, not %v", seed, e, want)
			}
			hold(t, d, b, m)
		}
	}
}

// P2: two banks of one device don't meet.
func TestApart(t *testing.T) {
	d := device(t, 6, 13, 9)
	a, b := of(t, d, 0, 3), of(t, d, 3, 3)
	ok(t, a.Begin())
	ok(t, a.Put(1))
	isOpen(t, b, -1)
	ok(t, b.Begin())
	ok(t, b.Put(2, 3))
	isOpen(t, a, 1)
	ok(t, a.Commit(4))
	isOpen(t, b, 2)
	ok(t, b.Commit(5))
	ok(t, a.Confirm())
	ok(t, b.Try())
	isImage(t, a, 1)
	isImage(t, b, 2, 3)
	isState(t, a, header.State{Head: head(4, []uint32{1}), Valid: true, Confirmed: true})
	isState(t, b, header.State{Head: head(5, []uint32{2, 3}), Valid: true, Trials: 1})
}

// Rule 5: what is put isn't changed and isn't kept; an image is new memory.
func TestMemory(t *testing.T) {
	_, b := small(t)
	room := []uint32{1, 2, 3, 4}
	ok(t, b.Begin())
	ok(t, b.Put(room[:2]...))
	if !slices.Equal(room, []uint32{1, 2, 3, 4}) {
		t.Errorf("%x", room)
	}
	clear(room)
	ok(t, b.Commit(1))
	l, _ := b.Image()
	clear(l)
	isImage(t, b, 1, 2)
}

// The chapter's example.
func TestExample(t *testing.T) {
	_, b := small(t)
	ok(t, b.Begin())
	ok(t, b.Put(1, 2))
	ok(t, b.Commit(7))
	isImage(t, b, 1, 2)
	if b.State().Seq != 7 {
		t.Error(b.State())
	}
}
