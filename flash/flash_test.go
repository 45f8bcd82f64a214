package flash_test

import (
	"math"
	"math/rand/v2"
	"slices"
	"testing"

	"remontoir/api"
	"remontoir/flash"
	"remontoir/pair"
)

// none are numbers of no sector and no word, wherever there are at most 1024 of them.
var none = []int{-1, -2, -64, -1024, 1024, 1025, 1 << 16, 1 << 31, 1 << 32, 1<<32 + 1, -1 << 32, math.MinInt32, math.MinInt, math.MinInt + 1, math.MaxInt - 1, math.MaxInt}

// device: one that may be.
func device(t *testing.T, sectors, words, limit int) *flash.Device {
	t.Helper()
	d, e := flash.New(sectors, words, limit)
	if d == nil || e != api.OK {
		t.Fatalf("New(%d, %d, %d): %v", sectors, words, limit, e)
	}
	return d
}

// program programs words, which isn't refused.
func program(t *testing.T, d *flash.Device, sector int, l ...uint32) {
	t.Helper()
	for i, w := range l {
		if e := d.Program(sector, i, w); e != api.OK {
			t.Fatalf("Program(%d, %d, %x): %v", sector, i, w, e)
		}
	}
}

// blank: so many words of which none was programmed.
func blank(words int) []uint32 {
	return slices.Repeat([]uint32{0xffffffff}, words)
}

// masks: the first masks of a seed, told by shifts.
func masks(seed uint32, many int) []uint32 {
	x := max(seed, 1)
	var l []uint32
	for range many {
		l = append(l, x)
		x ^= x << 13
		x ^= x >> 17
		x ^= x << 5
	}
	return l
}

// model is a device told in another way.
type model struct {
	sectors [][]uint32
	worn    []int
	limit   int
	on      bool
	ops     int
	left    int // operations that are done yet ahead of the cut; below 0: none is armed
	seed    uint32
}

func fresh(sectors, words, limit int) *model {
	m := &model{limit: limit, on: true, left: -1, worn: make([]int, sectors)}
	for range sectors {
		m.sectors = append(m.sectors, blank(words))
	}
	return m
}

func (m *model) arm(c api.Cut) {
	m.left, m.seed = max(c.After, 0), c.Seed
}

// cuts counts an operation; does the power go in it?
func (m *model) cuts() bool {
	m.ops++
	if m.left < 0 {
		return false
	}
	m.left--
	if m.left >= 0 {
		return false
	}
	m.on = false
	return true
}

func (m *model) read(sector, word int) (uint32, api.Errno) {
	switch {
	case !m.on:
		return 0, api.ErrCut
	case sector < 0 || sector >= len(m.sectors) || word < 0 || word >= len(m.sectors[0]):
		return 0, api.ErrAddr
	}
	return m.sectors[sector][word], api.OK
}

func (m *model) program(sector, word int, w uint32) api.Errno {
	was, e := m.read(sector, word)
	switch {
	case e != api.OK:
		return e
	case was|w != was:
		return api.ErrBits
	case m.cuts():
		m.sectors[sector][word] = was & (w | masks(m.seed, 1)[0])
		return api.ErrCut
	}
	m.sectors[sector][word] = w
	return api.OK
}

func (m *model) erase(sector int) api.Errno {
	if _, e := m.read(sector, 0); e != api.OK {
		return e
	}
	if m.worn[sector] == m.limit {
		return api.ErrWorn
	}
	m.worn[sector]++
	words := len(m.sectors[sector])
	if m.cuts() {
		for i, mask := range masks(m.seed, words) {
			m.sectors[sector][i] |= mask
		}
		return api.ErrCut
	}
	m.sectors[sector] = blank(words)
	return api.OK
}

// hold holds all that a device answers against a model.
func hold(t *testing.T, d *flash.Device, m *model) {
	t.Helper()
	if d.Sectors() != len(m.sectors) || d.Words() != len(m.sectors[0]) || d.Limit() != m.limit {
		t.Fatalf("%d sectors of %d words, limit %d", d.Sectors(), d.Words(), d.Limit())
	}
	if d.On() != m.on || d.Ops() != m.ops {
		t.Fatalf("On %v, Ops %d, not %v, %d", d.On(), d.Ops(), m.on, m.ops)
	}
	for i, want := range m.sectors {
		if got := d.Sector(i); !slices.Equal(got, want) || d.Worn(i) != m.worn[i] {
			t.Fatalf("Sector(%d): %x, worn %d, not %x, %d", i, got, d.Worn(i), want, m.worn[i])
		}
		for word := -1; word <= len(want); word++ {
			w, e := d.Read(i, word)
			if x, f := m.read(i, word); w != x || e != f {
				t.Fatalf("Read(%d, %d): %x %v, not %x %v", i, word, w, e, x, f)
			}
		}
	}
}

// P6.1: each bound, one past it, and what is far off.
func TestNew(t *testing.T) {
	for _, c := range []struct{ sectors, words, limit int }{{1, 1, 0}, {1, 1, 1 << 20}, {64, 1, 3}, {1, 1024, 3}, {64, 1024, 1 << 20}, {7, 13, 5}} {
		d := device(t, c.sectors, c.words, c.limit)
		if d.Sectors() != c.sectors || d.Words() != c.words || d.Limit() != c.limit || !d.On() || d.Ops() != 0 {
			t.Errorf("%v: %d, %d, %d, %v, %d", c, d.Sectors(), d.Words(), d.Limit(), d.On(), d.Ops())
		}
		for i := range c.sectors {
			if !slices.Equal(d.Sector(i), blank(c.words)) || d.Worn(i) != 0 {
				t.Errorf("%v: sector %d isn't blank, or worn %d", c, i, d.Worn(i))
			}
		}
	}
	far := []int{-1, math.MinInt, math.MaxInt, math.MinInt32, 1 << 32, 1<<32 + 1}
	for _, bad := range slices.Concat(far, []int{0, 65, 1024}) {
		if d, e := flash.New(bad, 1, 1); d != nil || e != api.ErrSize {
			t.Errorf("%d sectors: %v, %v", bad, d, e)
		}
	}
	for _, bad := range slices.Concat(far, []int{0, 1025, 4096}) {
		if d, e := flash.New(1, bad, 1); d != nil || e != api.ErrSize {
			t.Errorf("%d words: %v, %v", bad, d, e)
		}
	}
	for _, bad := range slices.Concat(far, []int{1<<20 + 1, 1 << 21}) {
		if d, e := flash.New(1, 1, bad); d != nil || e != api.ErrSize {
			t.Errorf("limit %d: %v, %v", bad, d, e)
		}
	}
}

// P6.1: Worn tells of each sector by itself.
func TestWorn(t *testing.T) {
	d := device(t, 3, 2, 4)
	for i, often := range []int{4, 0, 2} {
		for range often {
			if e := d.Erase(i); e != api.OK {
				t.Fatal(e)
			}
		}
	}
	if d.Worn(0) != 4 || d.Worn(1) != 0 || d.Worn(2) != 2 || d.Worn(3) != 0 {
		t.Error(d.Worn(0), d.Worn(1), d.Worn(2), d.Worn(3))
	}
	for _, bad := range none {
		if d.Worn(bad) != 0 {
			t.Errorf("Worn(%d): %d", bad, d.Worn(bad))
		}
	}
	d.Arm(api.Cut{})
	if e := d.Erase(2); e != api.ErrCut || d.Worn(2) != 3 {
		t.Errorf("cut off: %v, worn %d", e, d.Worn(2))
	}
}

// P6.2: each bit may be cleared, and none set.
func TestProgram(t *testing.T) {
	for place := range 32 {
		bit := uint32(1) << place
		d, m := device(t, 2, 3, 1), fresh(2, 3, 1)
		for _, w := range []uint32{0xffffffff, ^bit, ^bit, ^bit &^ 1, bit, 0xffffffff, bit - 1, ^bit &^ 3, 0, 0, bit} {
			got, want := d.Program(1, 2, w), m.program(1, 2, w)
			if got != want {
				t.Errorf("bit %d: Program %x: %v, not %v", place, w, got, want)
			}
			hold(t, d, m)
		}
	}
}

// P6.2: a word that stays as it is, is an operation, too; what is refused is none.
func TestOps(t *testing.T) {
	d := device(t, 1, 2, 1)
	for i, c := range []struct {
		does func() api.Errno
		want api.Errno
		ops  int
	}{
		{func() api.Errno { return d.Program(0, 0, 0xffffffff) }, api.OK, 1},
		{func() api.Errno { return d.Program(0, 0, 6) }, api.OK, 2},
		{func() api.Errno { return d.Program(0, 0, 6) }, api.OK, 3},
		{func() api.Errno { return d.Program(0, 0, 7) }, api.ErrBits, 3},
		{func() api.Errno { return d.Program(0, 2, 0) }, api.ErrAddr, 3},
		{func() api.Errno { _, e := d.Read(0, 0); return e }, api.OK, 3},
		{func() api.Errno { return d.Erase(1) }, api.ErrAddr, 3},
		{func() api.Errno { return d.Erase(0) }, api.OK, 4},
		{func() api.Errno { return d.Erase(0) }, api.ErrWorn, 4},
		{func() api.Errno { return d.Program(0, 0, 7) }, api.OK, 5},
		{func() api.Errno { d.Arm(api.Cut{}); return d.Program(0, 0, 1) }, api.ErrCut, 6},
		{func() api.Errno { return d.Program(0, 0, 1) }, api.ErrCut, 6},
		{func() api.Errno { return d.Erase(0) }, api.ErrCut, 6},
	} {
		if e := c.does(); e != c.want || d.Ops() != c.ops {
			t.Errorf("call %d: %v, Ops %d, not %v, %d", i, e, d.Ops(), c.want, c.ops)
		}
	}
}

// P6.2: a sector is erased wholly, and no other one; as often as may be.
func TestErase(t *testing.T) {
	for _, limit := range []int{0, 1, 2, 5} {
		d := device(t, 3, 4, limit)
		for i := range 3 {
			program(t, d, i, 1, 2, 0, 4)
		}
		for i := range limit + 3 {
			was := d.Sector(1)
			want, left := api.OK, blank(4)
			if i >= limit {
				want, left = api.ErrWorn, was
			}
			if e := d.Erase(1); e != want || !slices.Equal(d.Sector(1), left) || d.Worn(1) != min(i+1, limit) {
				t.Errorf("limit %d, the time %d: %v, %x, worn %d", limit, i, e, d.Sector(1), d.Worn(1))
			}
			program(t, d, 1, 1, 2, 0) // it can be programmed still, even when it is worn
		}
		for _, other := range []int{0, 2} {
			if !slices.Equal(d.Sector(other), []uint32{1, 2, 0, 4}) || d.Worn(other) != 0 {
				t.Errorf("sector %d: %x, worn %d", other, d.Sector(other), d.Worn(other))
			}
		}
	}
}

// P6.2: at the greatest limit, too.
func TestGreatestLimit(t *testing.T) {
	d := device(t, 1, 1, 1<<20)
	for i := range 1 << 20 {
		if e := d.Erase(0); e != api.OK {
			t.Fatalf("the time %d: %v", i, e)
		}
	}
	if e := d.Erase(0); e != api.ErrWorn || d.Worn(0) != 1<<20 || d.Ops() != 1<<20 {
		t.Error(e, d.Worn(0), d.Ops())
	}
}

// P6.2, P6.3, rules 4 and 6: of no sector and no word ErrAddr, and nothing has changed.
func TestAddr(t *testing.T) {
	d, m := device(t, 2, 3, 2), fresh(2, 3, 2)
	program(t, d, 1, 8, 9)
	m.program(1, 0, 8)
	m.program(1, 1, 9)
	try := func(sector, word int) {
		if w, e := d.Read(sector, word); w != 0 || e != api.ErrAddr {
			t.Errorf("Read(%d, %d): %x, %v", sector, word, w, e)
		}
		for _, w := range []uint32{0, 8, 0xffffffff} {
			if e := d.Program(sector, word, w); e != api.ErrAddr {
				t.Errorf("Program(%d, %d, %x): %v", sector, word, w, e)
			}
		}
	}
	for _, bad := range slices.Concat(none, []int{2, 3, 63, 64}) {
		for _, other := range slices.Concat([]int{0, 1}, none) {
			try(bad, other)
			if bad != 2 { // there is a word 2
				try(other, bad)
			}
		}
		if e := d.Erase(bad); e != api.ErrAddr || d.Sector(bad) != nil {
			t.Errorf("Erase(%d): %v; Sector: %x", bad, e, d.Sector(bad))
		}
	}
	hold(t, d, m)
}

// P6.2, rule 2: without power ErrCut goes ahead of all else; then ErrAddr.
func TestErrorsFirst(t *testing.T) {
	d := device(t, 1, 1, 0)
	program(t, d, 0, 5)
	d.Power(false)
	for _, sector := range slices.Concat([]int{0, 1}, none) {
		for _, word := range slices.Concat([]int{0, 1}, none) {
			w, e := d.Read(sector, word)
			if f, g := d.Program(sector, word, 2), d.Erase(sector); w != 0 || e != api.ErrCut || f != api.ErrCut || g != api.ErrCut {
				t.Errorf("%d, %d: %x %v, %v, %v", sector, word, w, e, f, g)
			}
		}
	}
	if !slices.Equal(d.Sector(0), []uint32{5}) || d.Ops() != 1 || d.Worn(0) != 0 {
		t.Error(d.Sector(0), d.Ops(), d.Worn(0))
	}
	d.Power(true)
	if a, b, c := d.Program(1, 0, 2), d.Erase(1), d.Erase(0); a != api.ErrAddr || b != api.ErrAddr || c != api.ErrWorn {
		t.Error(a, b, c)
	}
}

// P6.3: the power goes and comes, and nothing else changes.
func TestPower(t *testing.T) {
	d, m := device(t, 2, 2, 3), fresh(2, 2, 3)
	for _, on := range []bool{false, false, true, true, false, true} {
		d.Power(on)
		m.on = on
		hold(t, d, m)
		if got, want := d.Program(0, 1, 77), m.program(0, 1, 77); got != want {
			t.Error(got, want)
		}
		if got, want := d.Erase(1), m.erase(1); got != want {
			t.Error(got, want)
		}
		hold(t, d, m)
	}
}

// P6.2, the chapter's words: what is left of a word is what the first mask leaves.
func TestCutProgram(t *testing.T) {
	for _, c := range []struct{ was, w, seed, left uint32 }{
		{6, 2, 4, 6}, {6, 2, 8, 2}, {5, 1, 4, 5}, {5, 1, 2, 1}, {0xffffffff, 0, 0, 1}, {0xffffffff, 0, 1, 1}, {0xffffffff, 0, 0x80000000, 0x80000000}, {0xffffffff, 0, 0xffffffff, 0xffffffff},
		{0xffffffff, 0xf0f0f0f0, 0x00ffff00, 0xf0fffff0}, {0x0000ffff, 0, 0xffff0000, 0}, {0, 0, 0xffffffff, 0}, {7, 7, 8, 7},
	} {
		d := device(t, 2, 3, 1)
		program(t, d, 1, 9, c.was, 9)
		d.Arm(api.Cut{Seed: c.seed})
		if e := d.Program(1, 1, c.w); e != api.ErrCut || d.On() || d.Ops() != 4 {
			t.Errorf("%x: %v, On %v, Ops %d", c, e, d.On(), d.Ops())
		}
		if got := d.Sector(1); !slices.Equal(got, []uint32{9, c.left, 9}) || !slices.Equal(d.Sector(0), blank(3)) {
			t.Errorf("%x: %x is left", c, got)
		}
		d.Power(true)
		if w, e := d.Read(1, 1); w != c.left || e != api.OK || !pair.Fell(c.was, c.w, w) {
			t.Errorf("%x: %x, %v", c, w, e)
		}
	}
}

// P6.2, the chapter's words: what is left of a sector is what the masks, one behind the other, set.
func TestCutErase(t *testing.T) {
	d := device(t, 2, 4, 1)
	program(t, d, 0, 1, 2, 3, 4)
	program(t, d, 1, 0, 1<<31, 0, 0)
	d.Arm(api.Cut{Seed: 1})
	if e := d.Erase(1); e != api.ErrCut || d.On() || d.Worn(1) != 1 || d.Ops() != 9 {
		t.Error(e, d.On(), d.Worn(1), d.Ops())
	}
	if got := d.Sector(1); !slices.Equal(got, []uint32{1, 1<<31 | 270369, 67634689, 2647435461}) {
		t.Error(got)
	}
	if got := d.Sector(0); !slices.Equal(got, []uint32{1, 2, 3, 4}) {
		t.Error(got)
	}
	d.Power(true)
	if e := d.Erase(1); e != api.ErrWorn { // it counts, though it was cut off
		t.Error(e)
	}
	for _, seed := range []uint32{0, 1, 2, 77, 1 << 31, 0xffffffff} {
		d := device(t, 1, 1024, 1)
		l := make([]uint32, 1024)
		for i := range l {
			l[i] = uint32(i) * 0x9e3779b9
		}
		program(t, d, 0, l...)
		d.Arm(api.Cut{Seed: seed})
		d.Erase(0)
		for i, mask := range masks(seed, 1024) {
			l[i] |= mask
		}
		if !slices.Equal(d.Sector(0), l) {
			t.Errorf("of the seed %d: %x, not %x", seed, d.Sector(0), l)
		}
	}
}

// P6.3: the power goes behind just so many operations; what is refused is none.
func TestAfter(t *testing.T) {
	for _, c := range []struct{ after, done int }{{0, 0}, {1, 1}, {2, 2}, {7, 7}, {-1, 0}, {-2, 0}, {math.MinInt, 0}, {100, 100}} {
		d := device(t, 2, 4, 1000)
		d.Arm(api.Cut{After: c.after, Seed: 3})
		for range 100 {
			d.Program(0, 0, 0xffffffff)
			d.Erase(1)
			d.Program(0, 0, 0)
			// These are refused.
			d.Program(0, 0, 1)
			d.Program(2, 0, 0)
			d.Erase(-1)
			d.Read(0, 0)
		}
		if done := d.Ops() - 1; d.On() || done != c.done {
			t.Errorf("After %d: On %v, behind %d", c.after, d.On(), done)
		}
	}
	d := device(t, 1, 1, 1)
	d.Arm(api.Cut{After: math.MaxInt})
	for range 1000 {
		if e := d.Program(0, 0, 0); e != api.OK {
			t.Fatal(e)
		}
	}
}

// P6.3: a cut that is armed stays while the power goes and comes; one that was is forgotten, and one that came comes once.
func TestArmed(t *testing.T) {
	d := device(t, 1, 1, 0)
	ops := func(want ...api.Errno) {
		t.Helper()
		for i, w := range want {
			if e := d.Program(0, 0, 0); e != w {
				t.Errorf("operation %d: %v, not %v", i, e, w)
			}
		}
	}
	ok, cut := api.OK, api.ErrCut
	d.Arm(api.Cut{After: 2})
	ops(ok)
	d.Power(false)
	ops(cut, cut, cut) // these are no operations
	d.Power(true)
	ops(ok, cut, cut)
	d.Power(true)
	ops(ok, ok, ok, ok) // it came
	d.Arm(api.Cut{After: 1})
	d.Arm(api.Cut{After: 3})
	ops(ok, ok, ok, cut)
	d.Arm(api.Cut{After: 1}) // without power
	ops(cut, cut)
	d.Power(true)
	ops(ok, cut)
	d.Power(true)
	ops(ok, ok)
	d.Arm(api.Cut{After: 5})
	d.Arm(api.Cut{After: -5})
	ops(cut)
	d.Power(true)
	ops(ok)
	if d.Ops() != 17 {
		t.Error(d.Ops())
	}
}

// P6.3: the seed of the last cut that was armed tells what is left.
func TestArmedSeed(t *testing.T) {
	d := device(t, 1, 1, 0)
	d.Arm(api.Cut{After: 0, Seed: 2})
	d.Arm(api.Cut{After: 0, Seed: 8})
	if e := d.Program(0, 0, 1); e != api.ErrCut || !slices.Equal(d.Sector(0), []uint32{9}) {
		t.Error(e, d.Sector(0))
	}
	d.Power(true)
	d.Arm(api.Cut{Seed: 8}) // its masks begin anew
	if e := d.Program(0, 0, 0); e != api.ErrCut || !slices.Equal(d.Sector(0), []uint32{8}) {
		t.Error(e, d.Sector(0))
	}
}

// P6.3, rule 5: Sector is new memory, also without power.
func TestSector(t *testing.T) {
	d := device(t, 2, 3, 1)
	program(t, d, 1, 7, 8, 9)
	for _, on := range []bool{true, false} {
		d.Power(on)
		l := d.Sector(1)
		if !slices.Equal(l, []uint32{7, 8, 9}) {
			t.Error(l)
		}
		l[0] = 0
		_ = append(l[:1], 0, 0, 0)
		if got := d.Sector(1); !slices.Equal(got, []uint32{7, 8, 9}) || !slices.Equal(d.Sector(0), blank(3)) {
			t.Error(got, d.Sector(0))
		}
	}
}

// P2: two devices don't meet.
func TestApart(t *testing.T) {
	a, b := device(t, 1, 2, 1), device(t, 1, 2, 1)
	a.Arm(api.Cut{After: 1})
	program(t, a, 0, 5)
	program(t, b, 0, 6, 7)
	if e := a.Erase(0); e != api.ErrCut || b.Worn(0) != 0 || !b.On() || b.Ops() != 2 || !slices.Equal(b.Sector(0), []uint32{6, 7}) {
		t.Error(e, b.Worn(0), b.On(), b.Ops(), b.Sector(0))
	}
}

// P6.1 to P6.3: whatever is done, cuts among it.
func TestMixture(t *testing.T) {
	for seed := range uint64(40) {
		r := rand.New(rand.NewPCG(6, seed))
		sectors, words, limit := 1+r.IntN(4), 1+r.IntN(5), r.IntN(30)
		d, m := device(t, sectors, words, limit), fresh(sectors, words, limit)
		for range 500 {
			sector, word := r.IntN(sectors+2)-1, r.IntN(words+2)-1
			switch r.IntN(8) {
			case 0:
				c := api.Cut{After: r.IntN(6) - 1, Seed: r.Uint32()}
				d.Arm(c)
				m.arm(c)
			case 1, 2:
				on := r.IntN(4) > 0
				d.Power(on)
				m.on = on
			case 3:
				if got, want := d.Erase(sector), m.erase(sector); got != want {
					t.Fatalf("Erase(%d): %v, not %v", sector, got, want)
				}
			default:
				w := r.Uint32() | r.Uint32()
				if was, e := m.read(sector, word); e == api.OK && r.IntN(3) > 0 {
					w &= was
				}
				if got, want := d.Program(sector, word, w), m.program(sector, word, w); got != want {
					t.Fatalf("Program(%d, %d, %x): %v, not %v", sector, word, w, got, want)
				}
			}
			hold(t, d, m)
		}
	}
}

// The chapter's example.
func TestExample(t *testing.T) {
	d := device(t, 1, 1, 0)
	if a, b, c := d.Program(0, 0, 5), d.Program(0, 0, 2), d.Program(0, 0, 1); a != api.OK || b != api.ErrBits || c != api.OK {
		t.Error(a, b, c)
	}
}
